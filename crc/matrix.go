package crc

// matrix has, of each bit of a register, what comes of it alone.
type matrix [32]uint32

func oneNought() matrix {
	t := newTable()
	var m matrix
	for i := range m {
		register := uint32(1) << i
		m[i] = register>>8 ^ t[byte(register)]
	}
	return m
}

func (m *matrix) times(register uint32) uint32 {
	var sum uint32
	for i := 0; register != 0; i++ {
		if register&1 == 1 {
			sum ^= m[i]
		}
		register >>= 1
	}
	return sum
}

func (m *matrix) squared() matrix {
	var twice matrix
	for i, column := range m {
		twice[i] = m.times(column)
	}
	return twice
}

// afterNoughts goes by the bits of n, since n may be too great to be counted up to.
func afterNoughts(register uint32, n int64) uint32 {
	m := oneNought()
	for ; n > 0; n /= 2 {
		if n%2 == 1 {
			register = m.times(register)
		}
		m = m.squared()
	}
	return register
}

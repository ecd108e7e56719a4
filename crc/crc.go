// Package crc tells checksums of texts: CRC-32, as Ethernet has it.
//
// A register, here, is a sum whose bits are turned over: between the turnings all that is done to it
// is linear, which is what the table and the matrices stand on.
package crc

// polynomial has its lowest power in its highest bit, since registers are shifted right.
const polynomial = 0xEDB88320

func shifted(register uint32) uint32 {
	if register&1 == 1 {
		return register>>1 ^ polynomial
	}
	return register >> 1
}

// table has, of each byte that falls out of a register, what is xored in for it.
type table [256]uint32

// newTable goes bit by bit, not byte by byte: what some bits do together is what each does alone, xored.
// Since it is called anew for each text, it must cost little beside a short one.
func newTable() table {
	var t table
	register := uint32(1)
	for bit := 128; bit > 0; bit /= 2 {
		register = shifted(register)
		for i := 0; i < len(t); i += 2 * bit {
			t[i+bit] = t[i] ^ register
		}
	}
	return t
}

// Sum is the sum of a text.
func Sum(b []byte) uint32 {
	return More(0, b...)
}

// More is the sum of a text of the sum c, and of these bytes behind it.
func More(c uint32, b ...byte) uint32 {
	t := newTable()
	register := ^c
	for _, x := range b {
		register = register>>8 ^ t[byte(register)^x]
	}
	return ^register
}

// Noughts is the sum of a text of the sum c, and of n bytes 0 behind it (n below 0: as 0).
func Noughts(c uint32, n int64) uint32 {
	return ^afterNoughts(^c, n)
}

// Join is the sum of a text of the sum a, and of another one of n bytes, of the sum b, behind it.
func Join(a, b uint32, n int64) uint32 {
	// The sum b holds the turning of the bits already, at its beginning and its end: a goes in as it is.
	return afterNoughts(a, n) ^ b
}

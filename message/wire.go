package message

import (
	"bytes"

	"riffle/api"
)

// wire is what fields pass over, to bytes or from bytes. Each function is handed what a field is, and answers what it is then:
// the same, where it was written; what was read, where it was read.
type wire struct {
	number func(n uint64, size int) uint64 // of so many bytes, the highest first
	rest   func(b []byte, most int) []byte // all that is left: from 1 to so many bytes
}

// writer is a wire that writes behind what is there.
func writer(to *[]byte) wire {
	return wire{
		number: func(n uint64, size int) uint64 {
			for shift := 8 * (size - 1); shift >= 0; shift -= 8 {
				*to = append(*to, byte(n>>shift))
			}
			return n
		},
		rest: func(b []byte, most int) []byte {
			must(len(b) >= 1 && len(b) <= most)
			*to = append(*to, b...)
			return b
		},
	}
}

// reader is a wire that reads what is there, and takes it away.
func reader(from *[]byte) wire {
	return wire{
		number: func(_ uint64, size int) uint64 {
			must(size <= len(*from))
			n := uint64(0)
			for _, x := range (*from)[:size] {
				n = n<<8 | uint64(x)
			}
			*from = (*from)[size:]
			return n
		},
		rest: func(_ []byte, most int) []byte {
			must(len(*from) >= 1 && len(*from) <= most)
			b := bytes.Clone(*from)
			*from = nil
			return b
		},
	}
}

// pass passes a message's fields over a wire, one by one, and is whether none of them is wrong.
func pass[M any](w wire, m *M, fields []func(wire, *M)) (ok bool) {
	defer func() {
		if wrong := recover(); wrong != nil {
			ok = false
		}
	}()
	for _, field := range fields {
		field(w, m)
	}
	return true
}

// must ends the passing at a field that is wrong.
func must(ok bool) {
	if !ok {
		panic(api.ErrField)
	}
}

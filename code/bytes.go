package code

import "riffle/api"

const numberBytes = 8

// Bytes is a program's bytes.
func Bytes(p api.Program) ([]byte, api.Errno) {
	if !May(p) {
		return nil, api.ErrCode
	}
	b := []byte{byte(p.Vars), byte(len(p.Kinds))}
	for _, kind := range p.Kinds {
		b = append(b, byte(len(kind)))
		for _, i := range kind {
			b = appendInstruction(b, i)
		}
	}
	return b, api.OK
}

func appendInstruction(b []byte, i api.Instr) []byte {
	b = append(b, byte(i.Op))
	if !Numbered(i.Op) {
		return b
	}
	for shift := 8 * (numberBytes - 1); shift >= 0; shift -= 8 {
		b = append(b, byte(i.N>>shift))
	}
	return b
}

// OfBytes is the program whose bytes stand ahead, and how many bytes that are.
func OfBytes(b []byte) (api.Program, int, api.Errno) {
	r := byteReader{left: b}
	p, e := read(r.program)
	if e != api.OK {
		return api.Program{}, 0, e
	}
	return p, len(b) - len(r.left), api.OK
}

// byteReader has what is left of bytes.
type byteReader struct {
	left []byte
}

// number takes a number of so many bytes.
func (r *byteReader) number(size int) int64 {
	must(size <= len(r.left))
	n := int64(0)
	for _, x := range r.left[:size] {
		n = n<<8 | int64(x)
	}
	r.left = r.left[size:]
	return n
}

func (r *byteReader) program() api.Program {
	p := api.Program{Vars: int(r.number(1))}
	p.Kinds = make([][]api.Instr, r.number(1))
	for i := range p.Kinds {
		p.Kinds[i] = r.kind()
	}
	return p
}

func (r *byteReader) kind() []api.Instr {
	kind := make([]api.Instr, r.number(1))
	for i := range kind {
		kind[i] = r.instruction()
	}
	return kind
}

func (r *byteReader) instruction() api.Instr {
	o := api.Op(r.number(1))
	if !Numbered(o) {
		return api.Instr{Op: o}
	}
	return api.Instr{Op: o, N: r.number(numberBytes)}
}

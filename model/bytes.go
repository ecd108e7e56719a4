package model

import (
	"riffle/api"
	"riffle/code"
)

// How many bytes numbers have.
const (
	countBytes  = 1
	numberBytes = 8
)

// firstSizes are how many bytes each number has that is told of a first event.
var firstSizes = [firstNumbers]int{numberBytes, 1, 1, numberBytes}

// Bytes is a model's bytes.
func Bytes(m api.Model) ([]byte, api.Errno) {
	if !May(m) {
		return nil, api.ErrModel
	}
	b := appendNumber(nil, int64(len(m.Procs)), countBytes)
	for _, p := range m.Procs {
		b = appendProc(b, p)
	}
	b = appendNumber(b, int64(len(m.First)), countBytes)
	for _, e := range m.First {
		for i, n := range numbersOf(e) {
			b = appendNumber(b, n, firstSizes[i])
		}
	}
	return b, api.OK
}

// appendProc is called with processes that may be alone: their programs have bytes.
func appendProc(b []byte, p api.Proc) []byte {
	program, _ := code.Bytes(p.Program)
	b = append(b, program...)
	for _, n := range p.Vars {
		b = appendNumber(b, n, numberBytes)
	}
	return appendNumber(b, p.Seed, numberBytes)
}

func appendNumber(b []byte, n int64, size int) []byte {
	for shift := 8 * (size - 1); shift >= 0; shift -= 8 {
		b = append(b, byte(n>>shift))
	}
	return b
}

// Of is the model whose bytes these are.
func Of(b []byte) (api.Model, api.Errno) {
	r := byteReader{left: b}
	return whole(r.model())
}

// byteReader has what is left of bytes.
type byteReader struct {
	left []byte
}

func (r *byteReader) model() (m api.Model, err error) {
	if m.Procs, err = list(r, r.proc); err != nil {
		return m, err
	}
	if m.First, err = list(r, r.first); err != nil {
		return m, err
	}
	if len(r.left) > 0 {
		return m, cannot("end")
	}
	return m, nil
}

// list takes how many there are, and each of these, by its place.
func list[T any](r *byteReader, one func(place int) (T, error)) ([]T, error) {
	count, err := r.number(countBytes)
	if err != nil {
		return nil, err
	}
	l := make([]T, count)
	for place := range l {
		if l[place], err = one(place); err != nil {
			return nil, err
		}
	}
	return l, nil
}

func (r *byteReader) proc(int) (p api.Proc, err error) {
	program, size, e := code.OfBytes(r.left)
	if e != api.OK {
		return p, cannot("program")
	}
	r.left = r.left[size:]
	p.Program, p.Vars = program, make([]int64, program.Vars)
	for i := range p.Vars {
		if p.Vars[i], err = r.number(numberBytes); err != nil {
			return p, err
		}
	}
	p.Seed, err = r.number(numberBytes)
	return p, err
}

func (r *byteReader) first(place int) (e api.Event, err error) {
	var numbers [firstNumbers]int64
	for i, size := range firstSizes {
		if numbers[i], err = r.number(size); err != nil {
			return e, err
		}
	}
	return firstOf(place, numbers), nil
}

// number takes a number of so many bytes.
func (r *byteReader) number(size int) (n int64, err error) {
	if size > len(r.left) {
		return 0, cannot("number")
	}
	for _, x := range r.left[:size] {
		n = n<<8 | int64(x)
	}
	r.left = r.left[size:]
	return n, nil
}

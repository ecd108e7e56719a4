package message

import (
	"riffle/api"
	"riffle/frame"
)

// grammar is how the messages of one type are said: by their kinds, and by the fields that each kind names.
type grammar[K ~int, M any] struct {
	kind   func(m *M) *K
	fields map[K][]func(w wire, m *M)
	same   func(a, b M) bool
}

func (g grammar[K, M]) may(m M) bool {
	_, err := g.encode(m)
	return err == api.OK
}

// encode reads what it wrote: what comes back has nothing but what its kind names, and so has the message, if it is the same.
func (g grammar[K, M]) encode(m M) ([]byte, api.Errno) {
	kind := *g.kind(&m)
	fields, is := g.fields[kind]
	passed := m
	b := []byte{byte(kind)}
	if !is || !pass(writer(&b), &passed, fields) {
		return nil, api.ErrArg
	}
	back, err := g.decode(b)
	if err != api.OK || !g.same(back, m) {
		return nil, api.ErrArg
	}
	return b, api.OK
}

func (g grammar[K, M]) decode(b []byte) (M, api.Errno) {
	var m, none M
	if len(b) == 0 {
		return none, api.ErrTag
	}
	kind, left := K(b[0]), b[1:]
	fields, is := g.fields[kind]
	if !is {
		return none, api.ErrTag
	}
	*g.kind(&m) = kind
	if !pass(reader(&left), &m, fields) || len(left) > 0 {
		return none, api.ErrField
	}
	return m, api.OK
}

// stream is the messages' frames, one behind the other.
func (g grammar[K, M]) stream(l []M) ([]byte, api.Errno) {
	var b []byte
	for _, m := range l {
		payload, err := g.encode(m)
		if err != api.OK {
			return nil, err
		}
		framed, err := frame.Encode(payload)
		if err != api.OK {
			return nil, err
		}
		b = append(b, framed...)
	}
	return b, api.OK
}

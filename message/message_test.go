package message_test

import (
	"bytes"
	"encoding/binary"
	"math"
	"reflect"
	"slices"
	"testing"

	"riffle/api"
	"riffle/message"
)

// part is a part of a message: how it is set by a number (of lists: how long one is), and which numbers are in its bounds, and beyond.
type part[M any] struct {
	name      string
	set       func(m *M, n int64)
	good, bad []int64
}

// side is what the document says of requests, or of responses, and the functions that are asked.
type side[M any] struct {
	parts   []part[M]
	names   map[int][]string // the parts that a kind names
	ofKind  func(kind int) M
	byWords func(m M) []byte
	may     func(m M) bool
	same    func(a, b M) bool
	encode  func(m M) ([]byte, api.Errno)
	decode  func(b []byte) (M, api.Errno)
	stream  func(l ...M) ([]byte, api.Errno)
}

var (
	words  = []int64{0, 1, 0x01020304, math.MaxUint32}
	wholes = []int64{0, 1, -1, -2, 255, 256, 0x0102030405060708, math.MinInt64, math.MaxInt64}
	octets = []int64{0, 1, 127, 128, 254, 255}
	beyond = []int64{-1, 256, 257, -255, -256, 1 << 32, math.MinInt64, math.MaxInt64}
)

func requests() side[api.Request] {
	return side[api.Request]{
		parts: []part[api.Request]{
			{"ID", func(q *api.Request, n int64) { q.ID = uint32(n) }, words, nil},
			{"Version", func(q *api.Request, n int64) { q.Version = int(n) }, octets, beyond},
			{"Model", func(q *api.Request, n int64) { q.Model = model(int(n)) }, []int64{1, 2, 255, 256, api.MaxFrame - 5}, []int64{0, api.MaxFrame - 4, api.MaxFrame - 3, 1 << 16, 1<<16 + 1}},
			{"Event.Time", func(q *api.Request, n int64) { q.Event.Time = n }, wholes, nil},
			{"Event.Origin", func(q *api.Request, n int64) { q.Event.Origin = int(n) }, octets, beyond},
			{"Event.Seq", func(q *api.Request, n int64) { q.Event.Seq = n }, wholes, nil},
			{"Event.To", func(q *api.Request, n int64) { q.Event.To = int(n) }, octets, beyond},
			{"Event.Kind", func(q *api.Request, n int64) { q.Event.Kind = int(n) }, octets, beyond},
			{"Event.Data", func(q *api.Request, n int64) { q.Event.Data = n }, wholes, nil},
			{"Number", func(q *api.Request, n int64) { q.Number = uint32(n) }, words, nil},
			{"Break.Proc", func(q *api.Request, n int64) { q.Break.Proc = int(n) }, octets, beyond},
			{"Break.Kind", func(q *api.Request, n int64) { q.Break.Kind = int(n) }, []int64{-1, 0, 1, 253, 254}, []int64{-2, 255, 256, 511, -257, math.MinInt64, math.MaxInt64}},
			{"Break.Time", func(q *api.Request, n int64) { q.Break.Time = n }, wholes, nil},
			{"Proc", func(q *api.Request, n int64) { q.Proc = int(n) }, octets, beyond},
			{"Num", func(q *api.Request, n int64) { q.Num = n }, wholes, nil},
			{"Den", func(q *api.Request, n int64) { q.Den = n }, wholes, nil},
		},
		names: map[int][]string{
			1: {"ID", "Version"}, 2: {"ID", "Model"}, 3: {"ID", "Event.Time", "Event.To", "Event.Kind", "Event.Data"},
			4: {"ID", "Number", "Break.Proc", "Break.Kind", "Break.Time"}, 5: {"ID", "Number"}, 6: {"ID", "Proc"},
			7: {"ID"}, 8: {"ID"}, 9: {"ID"}, 10: {"ID", "Num", "Den"}, 11: {"ID"}, 12: {"ID"},
		},
		ofKind:  func(kind int) api.Request { return api.Request{Kind: api.ReqKind(kind)} },
		byWords: requestByWords,
		may:     message.MayRequest,
		same:    message.SameRequest,
		encode:  message.EncodeRequest,
		decode:  message.DecodeRequest,
		stream:  message.Requests,
	}
}

func responses() side[api.Response] {
	return side[api.Response]{
		parts: []part[api.Response]{
			{"ID", func(p *api.Response, n int64) { p.ID = uint32(n) }, words, nil},
			{"Err", func(p *api.Response, n int64) { p.Err = api.Errno(n) }, []int64{0, 1, 2, 3, 4, 5, 6, 7, 8, 9, 10, 11, 12, 13, 14, 15, 16}, append([]int64{17, 18, 255}, beyond...)},
			{"Floor", func(p *api.Response, n int64) { p.Floor = n }, wholes, nil},
			{"Vars", func(p *api.Response, n int64) { p.Vars = numbers(int(n)) }, []int64{0, 1, 2, 7, api.MaxVars}, []int64{api.MaxVars + 1, api.MaxVars + 2, 255, 256, 257, 256 + api.MaxVars}},
			{"Record.Time", func(p *api.Response, n int64) { p.Record.Time = n }, wholes, nil},
			{"Record.Origin", func(p *api.Response, n int64) { p.Record.Origin = int(n) }, octets, beyond},
			{"Record.Seq", func(p *api.Response, n int64) { p.Record.Seq = n }, wholes, nil},
			{"Record.Proc", func(p *api.Response, n int64) { p.Record.Proc = int(n) }, octets, beyond},
			{"Record.Nth", func(p *api.Response, n int64) { p.Record.Nth = int(n) }, octets, beyond},
			{"Record.Value", func(p *api.Response, n int64) { p.Record.Value = n }, wholes, nil},
			{"Number", func(p *api.Response, n int64) { p.Number = uint32(n) }, words, nil},
			{"Event.Time", func(p *api.Response, n int64) { p.Event.Time = n }, wholes, nil},
			{"Event.Origin", func(p *api.Response, n int64) { p.Event.Origin = int(n) }, octets, beyond},
			{"Event.Seq", func(p *api.Response, n int64) { p.Event.Seq = n }, wholes, nil},
			{"Event.To", func(p *api.Response, n int64) { p.Event.To = int(n) }, octets, beyond},
			{"Event.Kind", func(p *api.Response, n int64) { p.Event.Kind = int(n) }, octets, beyond},
			{"Event.Data", func(p *api.Response, n int64) { p.Event.Data = n }, wholes, nil},
		},
		names: map[int][]string{
			1: {"ID", "Err", "Floor"}, 2: {"ID", "Floor", "Vars"},
			3: {"Record.Time", "Record.Origin", "Record.Seq", "Record.Proc", "Record.Nth", "Record.Value"},
			4: {"Number", "Event.Time", "Event.Origin", "Event.Seq", "Event.To", "Event.Kind", "Event.Data"}, 5: {"Err"},
		},
		ofKind:  func(kind int) api.Response { return api.Response{Kind: api.ResKind(kind)} },
		byWords: responseByWords,
		may:     message.MayResponse,
		same:    message.SameResponse,
		encode:  message.EncodeResponse,
		decode:  message.DecodeResponse,
		stream:  message.Responses,
	}
}

// model is so many bytes; numbers are so many numbers, the second one below 0.
func model(n int) []byte {
	b := make([]byte, n)
	for i := range b {
		b[i] = byte(200 + i)
	}
	return b
}

func numbers(n int) []int64 {
	l := make([]int64, n)
	for i := range l {
		l[i] = int64(5-6*i) * 0x0102030405060708
	}
	return l
}

// list has bytes of numbers, as the document's words have them: of so many bytes, each behind its number.
func list(sizeThenNumber ...int64) []byte {
	var b []byte
	for l := range slices.Chunk(sizeThenNumber, 2) {
		whole := binary.BigEndian.AppendUint64(nil, uint64(l[1]))
		b = append(b, whole[8-l[0]:]...)
	}
	return b
}

func requestByWords(q api.Request) []byte {
	b := append([]byte{byte(q.Kind)}, list(4, int64(q.ID))...)
	switch q.Kind {
	case api.ReqHello:
		return append(b, byte(q.Version))
	case api.ReqLoad:
		return append(b, q.Model...)
	case api.ReqInject:
		return append(b, list(8, q.Event.Time, 1, int64(q.Event.To), 1, int64(q.Event.Kind), 8, q.Event.Data)...)
	case api.ReqBreak:
		return append(b, list(4, int64(q.Number), 1, int64(q.Break.Proc), 1, int64(q.Break.Kind), 8, q.Break.Time)...)
	case api.ReqClear:
		return append(b, list(4, int64(q.Number))...)
	case api.ReqQuery:
		return append(b, byte(q.Proc))
	case api.ReqRate:
		return append(b, list(8, q.Num, 8, q.Den)...)
	}
	return b
}

func responseByWords(p api.Response) []byte {
	b := []byte{byte(p.Kind)}
	switch p.Kind {
	case api.ResDone:
		return append(b, list(4, int64(p.ID), 1, int64(p.Err), 8, p.Floor)...)
	case api.ResState:
		b = append(b, list(4, int64(p.ID), 8, p.Floor, 1, int64(len(p.Vars)))...)
		for _, n := range p.Vars {
			b = append(b, list(8, n)...)
		}
		return b
	case api.ResRecord:
		r := p.Record
		return append(b, list(8, r.Time, 1, int64(r.Origin), 8, r.Seq, 1, int64(r.Proc), 1, int64(r.Nth), 8, r.Value)...)
	case api.ResHit:
		e := p.Event
		return append(b, list(4, int64(p.Number), 8, e.Time, 1, int64(e.Origin), 8, e.Seq, 1, int64(e.To), 1, int64(e.Kind), 8, e.Data)...)
	}
	return append(b, byte(p.Err))
}

func (s side[M]) named(kind int, p part[M]) bool {
	return slices.Contains(s.names[kind], p.name)
}

// ordinary is a message of a kind, all that it names in its bounds, and nothing else.
func (s side[M]) ordinary(kind int) M {
	m := s.ofKind(kind)
	for i, p := range s.parts {
		if s.named(kind, p) {
			p.set(&m, p.good[1+i%2])
		}
	}
	return m
}

// with is an ordinary message but for one part.
func (s side[M]) with(kind int, p part[M], n int64) M {
	m := s.ordinary(kind)
	p.set(&m, n)
	return m
}

// mayBe has messages of all kinds, with each part that they name at all its edges; and all their parts at the least, and at the greatest.
func (s side[M]) mayBe() []M {
	var l []M
	for kind := range s.names {
		least, greatest := s.ofKind(kind), s.ofKind(kind)
		for _, p := range s.parts {
			if !s.named(kind, p) {
				continue
			}
			p.set(&least, slices.Min(p.good))
			p.set(&greatest, slices.Max(p.good))
			for _, n := range p.good {
				l = append(l, s.with(kind, p, n))
			}
		}
		l = append(l, s.ordinary(kind), least, greatest)
	}
	return l
}

// mayNotBe has messages of all kinds with a part beyond its bounds, or with one that the kind doesn't name; and of kinds that are none.
func (s side[M]) mayNotBe() []M {
	var l []M
	for kind := range s.names {
		for _, p := range s.parts {
			wrong := p.bad
			if !s.named(kind, p) {
				wrong = slices.DeleteFunc(slices.Concat(p.good, p.bad), func(n int64) bool { return n == 0 })
			}
			for _, n := range wrong {
				l = append(l, s.with(kind, p, n))
			}
		}
	}
	for _, kind := range s.noKinds() {
		m := s.ofKind(kind)
		l = append(l, m)
		for _, p := range s.parts {
			m := m
			p.set(&m, p.good[1])
			l = append(l, m)
		}
	}
	return l
}

func (s side[M]) noKinds() []int {
	n := len(s.names)
	return []int{0, -1, n + 1, n + 2, 127, 128, 255, 256, 257, 256 + n, -255, 1<<32 + 1, math.MinInt, math.MaxInt}
}

// both runs a test over requests and over responses.
func both(t *testing.T, requestsTest func(*testing.T, side[api.Request]), responsesTest func(*testing.T, side[api.Response])) {
	t.Run("requests", func(t *testing.T) { requestsTest(t, requests()) })
	t.Run("responses", func(t *testing.T) { responsesTest(t, responses()) })
}

func nothing[M any](m M) bool {
	var none M
	return reflect.DeepEqual(m, none)
}

// P7.1

func testMay[M any](t *testing.T, s side[M]) {
	for _, m := range s.mayBe() {
		if !s.may(m) {
			t.Errorf("may not be: %+v", m)
		}
	}
	for _, m := range s.mayNotBe() {
		if s.may(m) {
			t.Errorf("may be: %+v", m)
		}
	}
	var none M
	if s.may(none) {
		t.Error("nothing may be")
	}
}

func TestWhatMayBe(t *testing.T) {
	both(t, testMay, testMay)
}

func TestListsOfNothing(t *testing.T) {
	for kind := range requests().names {
		none, empty := requests().ordinary(kind), requests().ordinary(kind)
		none.Model, empty.Model = nil, []byte{}
		if may := kind != int(api.ReqLoad); message.MayRequest(none) != may || message.MayRequest(empty) != may {
			t.Errorf("%+v: want %v", none, may)
		}
		if !message.SameRequest(none, empty) || !message.SameRequest(empty, none) {
			t.Errorf("not the same: %+v", none)
		}
	}
	for kind := range responses().names {
		none, empty := responses().ordinary(kind), responses().ordinary(kind)
		none.Vars, empty.Vars = nil, []int64{}
		if !message.MayResponse(none) || !message.MayResponse(empty) {
			t.Errorf("may not be: %+v", none)
		}
		if !message.SameResponse(none, empty) || !message.SameResponse(empty, none) {
			t.Errorf("not the same: %+v", none)
		}
	}
}

func testSame[M any](t *testing.T, s side[M]) {
	var unlike []M
	for kind := range s.names {
		unlike = append(unlike, s.ofKind(kind))
		for _, p := range s.parts {
			if !s.named(kind, p) {
				unlike = append(unlike, s.with(kind, p, p.good[1]), s.with(kind, p, p.good[2]))
				continue
			}
			for _, n := range slices.Concat(p.good, p.bad) {
				if m := s.with(kind, p, n); !reflect.DeepEqual(m, s.ordinary(kind)) {
					unlike = append(unlike, m)
				}
			}
		}
		unlike = append(unlike, s.ordinary(kind))
	}
	for i, a := range unlike {
		for j, b := range unlike {
			if want := reflect.DeepEqual(a, b); s.same(a, b) != want {
				t.Errorf("%d and %d: want %v: %+v, %+v", i, j, want, a, b)
			}
		}
	}
}

func TestSame(t *testing.T) {
	both(t, testSame, testSame)
}

func TestSameByWhatListsHold(t *testing.T) {
	a, b := api.Request{Kind: api.ReqLoad, Model: []byte{1, 2, 3}}, api.Request{Kind: api.ReqLoad, Model: []byte{1, 2, 3}}
	if !message.SameRequest(a, b) {
		t.Error("models of the same bytes")
	}
	for _, m := range [][]byte{{1, 2}, {1, 2, 4}, {0, 2, 3}, {1, 2, 3, 0}, nil} {
		b.Model = m
		if message.SameRequest(a, b) || message.SameRequest(b, a) {
			t.Errorf("models %v and %v", a.Model, m)
		}
	}
	p, o := api.Response{Kind: api.ResState, Vars: []int64{1, 2, 3}}, api.Response{Kind: api.ResState, Vars: []int64{1, 2, 3}}
	if !message.SameResponse(p, o) {
		t.Error("the same numbers")
	}
	for _, l := range [][]int64{{1, 2}, {1, 2, 4}, {0, 2, 3}, {1, 2, 3, 0}, nil} {
		o.Vars = l
		if message.SameResponse(p, o) || message.SameResponse(o, p) {
			t.Errorf("numbers %v and %v", p.Vars, l)
		}
	}
}

func TestSameOfWhatMayNotBe(t *testing.T) {
	a := api.Request{Kind: -5, Version: 300, Model: make([]byte, 5000), Event: api.Event{Key: api.Key{Seq: -1}}}
	b := a
	b.Model = bytes.Clone(a.Model)
	if !message.SameRequest(a, b) {
		t.Error("the same request twice")
	}
	p := api.Response{Kind: 99, Err: 55, Vars: make([]int64, 500)}
	o := p
	o.Vars = slices.Clone(p.Vars)
	if !message.SameResponse(p, o) {
		t.Error("the same response twice")
	}
}

package model_test

import (
	"bytes"
	"encoding/binary"
	"math"
	"reflect"
	"slices"
	"testing"

	"riffle/api"
	"riffle/code"
	"riffle/model"
)

// bytesByWords is a model's bytes, as the document's words have it.
func bytesByWords(m api.Model) []byte {
	b := []byte{byte(len(m.Procs))}
	for _, p := range m.Procs {
		program, _ := code.Bytes(p.Program)
		b = append(b, program...)
		for _, n := range append(slices.Clone(p.Vars), p.Seed) {
			b = binary.BigEndian.AppendUint64(b, uint64(n))
		}
	}
	b = append(b, byte(len(m.First)))
	for _, e := range m.First {
		b = binary.BigEndian.AppendUint64(b, uint64(e.Time))
		b = append(b, byte(e.To), byte(e.Kind))
		b = binary.BigEndian.AppendUint64(b, uint64(e.Data))
	}
	return b
}

// sayable is whether bytes, or a text, can say a model at all: programs that may be, whose variables are as many as they say,
// numbers of a byte in their bytes, and of first events no origin and Seq.
func sayable(m api.Model) bool {
	ok := len(m.Procs) < 256 && len(m.First) < 256
	for _, p := range m.Procs {
		ok = ok && code.May(p.Program) && len(p.Vars) == p.Program.Vars
	}
	for place, e := range m.First {
		ok = ok && e.Origin == 0 && e.Seq == int64(place) && e.To == int(byte(e.To)) && e.Kind == int(byte(e.Kind))
	}
	return ok
}

func mustBytes(t *testing.T, m api.Model, want []byte) {
	t.Helper()
	if b, e := model.Bytes(m); e != api.OK || !bytes.Equal(b, want) {
		t.Errorf("%v: %v, %v; want %v", m, b, e, want)
	}
}

func mustBeOf(t *testing.T, b []byte, want api.Model) {
	t.Helper()
	was := bytes.Clone(b)
	if m, e := model.Of(b); e != api.OK || !model.Same(m, want) {
		t.Errorf("%v: %v, %v; want %v", b, m, e, want)
	}
	if !bytes.Equal(b, was) {
		t.Errorf("%v was changed to %v", was, b)
	}
}

func mustBeOfNone(t *testing.T, b []byte) {
	t.Helper()
	if m, e := model.Of(b); e != api.ErrModel || !reflect.DeepEqual(m, api.Model{}) {
		t.Errorf("%v: %v, %v; want nothing and %v", b, m, e, api.ErrModel)
	}
}

// P9.2

func TestBytesOfTheExample(t *testing.T) {
	want := slices.Concat(
		[]byte{1},
		[]byte{0, 1, 2, 4, 16},
		[]byte{0, 0, 0, 0, 0, 0, 0, 7},
		[]byte{1},
		[]byte{0, 0, 0, 0, 0, 0, 0, 3, 1, 0, 0, 0, 0, 0, 0, 0, 0, 0},
	)
	mustBytes(t, example(), want)
	mustBeOf(t, want, example())
}

func TestBytesOfNumbers(t *testing.T) {
	m := api.Model{
		Procs: []api.Proc{
			{Program: idle(4), Vars: []int64{0x0102030405060708, -2, math.MinInt64, math.MaxInt64}, Seed: -256},
			{Program: idle(0), Seed: math.MaxInt64},
		},
		First: []api.Event{first(0, 1<<40, 2, 7, -3), first(1, 0x0102030405, 1, 0, math.MinInt64)},
	}
	want := slices.Concat(
		[]byte{2},
		[]byte{4, 1, 0},
		[]byte{1, 2, 3, 4, 5, 6, 7, 8},
		[]byte{255, 255, 255, 255, 255, 255, 255, 254},
		[]byte{128, 0, 0, 0, 0, 0, 0, 0},
		[]byte{127, 255, 255, 255, 255, 255, 255, 255},
		[]byte{255, 255, 255, 255, 255, 255, 255, 0},
		[]byte{0, 1, 0},
		[]byte{127, 255, 255, 255, 255, 255, 255, 255},
		[]byte{2},
		[]byte{0, 0, 1, 0, 0, 0, 0, 0, 2, 7, 255, 255, 255, 255, 255, 255, 255, 253},
		[]byte{0, 0, 0, 1, 2, 3, 4, 5, 1, 0, 128, 0, 0, 0, 0, 0, 0, 0},
	)
	mustBytes(t, m, want)
	mustBeOf(t, want, m)
}

func TestBytesThereAndBack(t *testing.T) {
	for _, m := range mayBe() {
		mustBytes(t, m, bytesByWords(m))
		mustBeOf(t, bytesByWords(m), m)
	}
}

func TestNoBytesOfWhatMayNotBe(t *testing.T) {
	for name, m := range mayNotBe() {
		if b, e := model.Bytes(m); b != nil || e != api.ErrModel {
			t.Errorf("%s: %v, %v", name, b, e)
		}
	}
}

func TestBytesOfWhatMayNotBe(t *testing.T) {
	seen := 0
	for _, m := range mayNotBe() {
		if sayable(m) {
			mustBeOfNone(t, bytesByWords(m))
			seen++
		}
	}
	if seen < 20 {
		t.Errorf("only %d were said", seen)
	}
}

func TestBytesThatAreTooFew(t *testing.T) {
	mustBeOfNone(t, nil)
	mustBeOfNone(t, []byte{})
	for _, m := range []api.Model{example(), rich(), ofIdle(api.MaxProcs, api.MaxFirst), ofIdle(1, 0)} {
		b := bytesByWords(m)
		for n := range b {
			mustBeOfNone(t, b[:n])
			mustBeOfNone(t, b[:n:n])
		}
	}
}

func TestBytesThatAreTooMany(t *testing.T) {
	for _, m := range []api.Model{example(), rich(), most(), ofIdle(1, 0)} {
		b := bytesByWords(m)
		for _, behind := range [][]byte{{0}, {1}, {255}, b, bytesByWords(example()), make([]byte, 18), make([]byte, 5000)} {
			mustBeOfNone(t, slices.Concat(b, behind))
			mustBeOfNone(t, slices.Concat(behind, b))
		}
	}
}

func TestBytesOfOtherCounts(t *testing.T) {
	procs := func(n int) []byte { return slices.Repeat([]byte{0, 1, 0, 0, 0, 0, 0, 0, 0, 0, 9}, n) }
	events := func(n int) []byte {
		return slices.Repeat([]byte{0, 0, 0, 0, 0, 0, 0, 3, 1, 0, 0, 0, 0, 0, 0, 0, 0, 4}, n)
	}
	for n := range 256 {
		b := slices.Concat([]byte{byte(n)}, procs(n), []byte{1}, events(1))
		if m, e := model.Of(b); (e == api.OK) != (n >= 1 && n <= 16) || len(m.Procs) != n && e == api.OK {
			t.Errorf("%d processes: %d, %v", n, len(m.Procs), e)
		}
		b = slices.Concat([]byte{1}, procs(1), []byte{byte(n)}, events(n))
		if m, e := model.Of(b); (e == api.OK) != (n <= 64) || len(m.First) != n && e == api.OK {
			t.Errorf("%d first events: %d, %v", n, len(m.First), e)
		}
		if n != 2 {
			mustBeOfNone(t, slices.Concat([]byte{byte(n)}, procs(2), []byte{1}, events(1)))
			mustBeOfNone(t, slices.Concat([]byte{2}, procs(2), []byte{byte(n)}, events(2)))
		}
	}
}

func TestBytesOfProgramsThatMayNotBe(t *testing.T) {
	behind := []byte{0, 0, 0, 0, 0, 0, 0, 9, 0} // a seed, no first event
	mustBeOf(t, slices.Concat([]byte{1, 0, 1, 1, 17}, behind), api.Model{Procs: []api.Proc{
		{Program: api.Program{Kinds: [][]api.Instr{{{Op: api.OpEnd}}}}, Seed: 9},
	}})
	for _, program := range [][]byte{
		{0, 0}, {0, 9, 0, 0, 0, 0, 0, 0, 0, 0, 0}, {9, 1, 0}, {255, 1, 0}, {0, 1, 129}, {0, 1, 1, 0}, {0, 1, 1, 18}, {0, 2, 0, 1, 255},
		{0, 1, 1, 15, 0, 0, 0, 0, 0, 0, 0, 1}, {0, 1, 1, 2, 0, 0, 0, 0, 0, 0, 0, 0}, {0, 1, 1, 13, 0, 0, 0, 0, 0, 0, 0, 2},
	} {
		vars := make([]byte, 8*int(program[0]))
		mustBeOfNone(t, slices.Concat([]byte{1}, program, vars, behind))
		mustBeOfNone(t, slices.Concat([]byte{2, 0, 1, 0}, behind[:8], program, vars, behind))
	}
}

func TestBytesOfFirstEventsThatMayNotBe(t *testing.T) {
	head := []byte{2, 0, 1, 0, 0, 0, 0, 0, 0, 0, 0, 9, 0, 1, 0, 0, 0, 0, 0, 0, 0, 0, 9, 1}
	for _, c := range []struct {
		time     int64
		to, kind byte
		ok       bool
	}{
		{0, 1, 0, true}, {0, 2, 7, true}, {1 << 40, 2, 0, true},
		{1<<40 + 1, 1, 0, false}, {-1, 1, 0, false}, {math.MinInt64, 1, 0, false}, {math.MaxInt64, 1, 0, false},
		{0, 0, 0, false}, {0, 3, 0, false}, {0, 16, 0, false}, {0, 255, 0, false}, {0, 1, 8, false}, {0, 1, 255, false},
	} {
		b := binary.BigEndian.AppendUint64(slices.Clone(head), uint64(c.time))
		b = append(b, c.to, c.kind, 255, 255, 255, 255, 255, 255, 255, 255)
		if c.ok {
			procs := []api.Proc{{Program: idle(0), Seed: 9}, {Program: idle(0), Seed: 9}}
			mustBeOf(t, b, api.Model{Procs: procs, First: []api.Event{first(0, c.time, int(c.to), int(c.kind), -1)}})
		} else {
			mustBeOfNone(t, b)
		}
	}
}

func TestBytesAreReadWithTheOriginAndSeqOfFirstEvents(t *testing.T) {
	m, e := model.Of(bytesByWords(ofIdle(3, api.MaxFirst)))
	mustHaveAllPlaces(t, m, e)
}

// mustHaveAllPlaces asks whether as many first events as may be were read, each with the origin 0, and its place as its Seq.
func mustHaveAllPlaces(t *testing.T, m api.Model, e api.Errno) {
	t.Helper()
	if e != api.OK || len(m.First) != api.MaxFirst {
		t.Fatal(len(m.First), e)
	}
	for place, e := range m.First {
		if e.Origin != 0 || e.Seq != int64(place) {
			t.Errorf("at %d: origin %d, Seq %d", place, e.Origin, e.Seq)
		}
	}
}

func TestBytesShareNothing(t *testing.T) {
	m := rich()
	b, _ := model.Bytes(m)
	again, _ := model.Bytes(m)
	clear(b[:cap(b)])
	if !bytes.Equal(again, bytesByWords(rich())) || !reflect.DeepEqual(m, rich()) {
		t.Errorf("changed through its bytes to %v, %v", m, again)
	}
	given := append(bytesByWords(rich()), "behind"...)
	n := len(given) - len("behind")
	read, _ := model.Of(given[:n])
	if !bytes.Equal(given[:n], bytesByWords(rich())) || string(given[n:]) != "behind" {
		t.Errorf("what was handed in was changed to %v", given)
	}
	clear(given)
	mustShareNoLists(t, read)
}

// mustShareNoLists asks whether a model that was read is the rich one, none of whose lists lies upon another.
func mustShareNoLists(t *testing.T, read api.Model) {
	t.Helper()
	if !model.Same(read, rich()) {
		t.Errorf("what was read changed to %v", read)
	}
	for i := range read.Procs {
		p := &read.Procs[i]
		_ = append(p.Vars, 1, 2, 3)
		_ = append(p.Program.Kinds, nil, nil)
		for _, kind := range p.Program.Kinds {
			_ = append(kind, api.Instr{}, api.Instr{})
		}
		if !model.Same(read, rich()) {
			t.Errorf("something lies behind a list of process %d: %v", i+1, read)
		}
	}
	clear(read.Procs[0].Vars)
	clear(read.Procs[0].Program.Kinds[0])
	want := but(func(m *api.Model) {
		clear(m.Procs[0].Vars)
		clear(m.Procs[0].Program.Kinds[0])
	})
	if !model.Same(read, want) {
		t.Errorf("two lists are one: %v", read)
	}
}

package code_test

import (
	"bytes"
	"encoding/binary"
	"math"
	"reflect"
	"slices"
	"testing"

	"riffle/api"
	"riffle/code"
)

// bytesByWords is a program's bytes, as the document's words have it.
func bytesByWords(p api.Program) []byte {
	b := []byte{byte(p.Vars), byte(len(p.Kinds))}
	for _, kind := range p.Kinds {
		b = append(b, byte(len(kind)))
		for _, i := range kind {
			b = append(b, byte(i.Op))
			if i.Op >= 1 && int(i.Op) <= len(operations) && operations[i.Op-1].numbered {
				b = binary.BigEndian.AppendUint64(b, uint64(i.N))
			}
		}
	}
	return b
}

func mustReadBytes(t *testing.T, b []byte, want api.Program, size int) {
	t.Helper()
	if p, n, e := code.OfBytes(b); e != api.OK || n != size || !code.Same(p, want) {
		t.Errorf("%v: %v, %d, %v; want %v, %d", b, p, n, e, want, size)
	}
}

func mustNotReadBytes(t *testing.T, b []byte) {
	t.Helper()
	if p, n, e := code.OfBytes(b); e != api.ErrCode || n != 0 || !reflect.DeepEqual(p, api.Program{}) {
		t.Errorf("%v: %v, %d, %v; want nothing and %v", b, p, n, e, api.ErrCode)
	}
}

// P3.3

func TestBytesOfTheExample(t *testing.T) {
	p := program(0, []api.Instr{{Op: api.OpTime}, {Op: api.OpTell}})
	want := []byte{0, 1, 2, 4, 16}
	if b, e := code.Bytes(p); e != api.OK || !bytes.Equal(b, want) {
		t.Errorf("%v, %v; want %v", b, e, want)
	}
	mustReadBytes(t, want, p, 5)
}

func TestBytesOfNumbers(t *testing.T) {
	p := program(8, nil, []api.Instr{
		{Op: api.OpPush, N: 0x0102030405060708}, {Op: api.OpPush, N: -2}, {Op: api.OpPush, N: math.MinInt64},
		{Op: api.OpPush, N: math.MaxInt64}, {Op: api.OpStore, N: 7}, {Op: api.OpEnd}, {Op: api.OpSend, N: 1}, {Op: api.OpZero, N: 8},
	}, nil)
	want := slices.Concat([]byte{8, 3, 0, 8},
		[]byte{1, 1, 2, 3, 4, 5, 6, 7, 8},
		[]byte{1, 255, 255, 255, 255, 255, 255, 255, 254},
		[]byte{1, 128, 0, 0, 0, 0, 0, 0, 0},
		[]byte{1, 127, 255, 255, 255, 255, 255, 255, 255},
		[]byte{3, 0, 0, 0, 0, 0, 0, 0, 7},
		[]byte{17},
		[]byte{15, 0, 0, 0, 0, 0, 0, 0, 1},
		[]byte{14, 0, 0, 0, 0, 0, 0, 0, 8},
		[]byte{0})
	if b, e := code.Bytes(p); e != api.OK || !bytes.Equal(b, want) {
		t.Errorf("%v, %v; want %v", b, e, want)
	}
	mustReadBytes(t, want, p, len(want))
}

func TestBytesThereAndBack(t *testing.T) {
	for name, p := range mayBe() {
		b, e := code.Bytes(p)
		if want := bytesByWords(p); e != api.OK || !bytes.Equal(b, want) {
			t.Errorf("%s: %v, %v; want %v", name, b, e, want)
		}
		mustReadBytes(t, b, p, len(b))
	}
}

func TestNoBytesOfWhatMayNotBe(t *testing.T) {
	for name, p := range mayNotBe() {
		if b, e := code.Bytes(p); b != nil || e != api.ErrCode {
			t.Errorf("%s: %v, %v", name, b, e)
		}
	}
}

// sayable is whether bytes can say a program at all: each number in its bytes, and no N but those that are named.
func sayable(p api.Program) bool {
	ok := p.Vars >= 0 && p.Vars < 256 && len(p.Kinds) < 256
	for _, i := range slices.Concat(p.Kinds...) {
		ok = ok && i.Op >= 0 && i.Op < 256 && (code.Numbered(i.Op) || i.N == 0)
	}
	return ok
}

func TestBytesOfWhatMayNotBe(t *testing.T) {
	for _, p := range mayNotBe() {
		if sayable(p) {
			mustNotReadBytes(t, bytesByWords(p))
			mustNotReadBytes(t, append(bytesByWords(p), make([]byte, 100)...))
		}
	}
}

func TestBytesWithSendsOfOtherKinds(t *testing.T) {
	send := byte(api.OpSend)
	for _, b := range [][]byte{
		{0, 1, 1, send, 0, 0, 0, 0, 0, 0, 0, 1},
		{0, 1, 1, send, 0, 0, 0, 0, 0, 0, 0, 7},
		{8, 2, 1, send, 0, 0, 0, 0, 0, 0, 0, 2, 0},
		{0, 2, 0, 1, send, 0, 0, 0, 0, 0, 0, 0, 2},
		{0, 2, 0, 1, send, 0, 0, 0, 1, 0, 0, 0, 1},
		{0, 2, 0, 1, send, 255, 255, 255, 255, 255, 255, 255, 255},
	} {
		mustNotReadBytes(t, b)
	}
	mustReadBytes(t, []byte{0, 1, 1, send, 0, 0, 0, 0, 0, 0, 0, 0}, program(0, []api.Instr{{Op: api.OpSend}}), 12)
	mustReadBytes(t, []byte{0, 2, 1, send, 0, 0, 0, 0, 0, 0, 0, 1, 0}, program(0, []api.Instr{{Op: api.OpSend, N: 1}}, nil), 13)
	mustReadBytes(t, []byte{0, 2, 0, 1, send, 0, 0, 0, 0, 0, 0, 0, 1}, program(0, nil, []api.Instr{{Op: api.OpSend, N: 1}}), 13)
}

func TestBytesThatAreCut(t *testing.T) {
	for _, p := range mayBe() {
		b := bytesByWords(p)
		for n := range min(len(b), 300) {
			mustNotReadBytes(t, b[:n])
		}
	}
	mustNotReadBytes(t, nil)
	mustNotReadBytes(t, []byte{})
}

func TestBytesAreReadAsFarAsTheProgramGoes(t *testing.T) {
	for _, p := range mayBe() {
		b := bytesByWords(p)
		for _, behind := range [][]byte{{0}, {255}, {17}, b, make([]byte, 5000)} {
			mustReadBytes(t, slices.Concat(b, behind), p, len(b))
		}
	}
}

func TestBytesWithSomethingMoreInTheMidst(t *testing.T) {
	end := byte(api.OpEnd)
	for _, b := range [][]byte{
		{0, 0},
		{0, 1, 1, 0},
		{0, 1, 2, end, 0, end},
		{0, 1, 2, 0, end, end},
		{0, 2, 1, end, 200, end, end},
		{0, 1, 1, byte(api.OpJump), 0, 0, 0, 0, 0, 0, 1, 0, 0},
		{0, 1, 1, byte(api.OpJump), 1, 0, 0, 0, 0, 0, 0, 1},
		{1, 1, 1, byte(api.OpLoad), 0, 0, 0, 0, 0, 0, 0, 1, 0},
		{1, 1, 1, byte(api.OpLoad), 128, 0, 0, 0, 0, 0, 0, 0},
		{255, 1, 0},
		{0, 255},
		{0, 1, 255},
	} {
		mustNotReadBytes(t, b)
	}
	for o := range 256 {
		b := append([]byte{1, 1, 1, byte(o)}, make([]byte, 8)...)
		if o >= 1 && o <= len(operations) {
			size := 4
			if operations[o-1].numbered {
				size = 12
			}
			mustReadBytes(t, b, program(1, []api.Instr{{Op: api.Op(o)}}), size)
		} else {
			mustNotReadBytes(t, b)
		}
	}
}

func TestBytesShareNothing(t *testing.T) {
	p := program(1, []api.Instr{{Op: api.OpPush, N: 5}}, ends(2))
	want := bytesByWords(p)
	b, _ := code.Bytes(p)
	clear(b)
	if again, _ := code.Bytes(p); !bytes.Equal(again, want) {
		t.Errorf("changed to %v", again)
	}
	given := append(slices.Clone(want), "behind"...)
	was := slices.Clone(given)
	read, _, _ := code.OfBytes(given)
	if !bytes.Equal(given, was) {
		t.Error("what was handed in was changed")
	}
	clear(given)
	if !code.Same(read, p) {
		t.Errorf("what was read changed to %v", read)
	}
	_ = append(read.Kinds[0], ends(3)...)
	clear(read.Kinds[0])
	if !slices.Equal(read.Kinds[1], ends(2)) {
		t.Errorf("one kind lies upon another one: %v", read.Kinds[1])
	}
}

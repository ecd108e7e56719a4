package code_test

import (
	"bytes"
	"math"
	"math/rand"
	"slices"
	"testing"

	"riffle/api"
	"riffle/code"
)

// number is one from the least to the most, often near them or near 0.
func number(r *rand.Rand, least, most int64) int64 {
	n := int64(r.Uint64()) >> r.Intn(64)
	switch r.Intn(4) {
	case 0:
		return least
	case 1:
		return most
	}
	if least == math.MinInt64 {
		return n
	}
	return least + (n&math.MaxInt64)%(most-least+1)
}

func randomKind(r *rand.Rand, vars, kinds int) []api.Instr {
	kind := make([]api.Instr, r.Intn(12))
	for i := range kind {
		o := operations[r.Intn(len(operations))]
		most := o.most
		switch o.op {
		case api.OpLoad, api.OpStore:
			if vars == 0 {
				o, most = operations[0], math.MaxInt64
			} else {
				most = int64(vars - 1)
			}
		case api.OpJump, api.OpZero:
			most = int64(len(kind))
		case api.OpSend:
			most = int64(kinds - 1)
		}
		kind[i] = api.Instr{Op: o.op, N: number(r, o.least, most)}
	}
	return kind
}

// randomProgram is one that may be.
func randomProgram(r *rand.Rand) api.Program {
	p := program(r.Intn(api.MaxVars + 1))
	kinds := 1 + r.Intn(api.MaxKinds)
	for range kinds {
		p.Kinds = append(p.Kinds, randomKind(r, p.Vars, kinds))
	}
	return p
}

// changed is a text in which some bytes are taken out, put in, or others.
func changed(r *rand.Rand, b []byte) []byte {
	b = slices.Clone(b)
	for range 1 + r.Intn(3) {
		at := r.Intn(len(b) + 1)
		put := []byte{b[r.Intn(len(b))], byte(r.Intn(256))}[r.Intn(2)]
		switch r.Intn(3) {
		case 0:
			b = slices.Insert(b, at, put)
		case 1:
			if at < len(b) && len(b) > 1 {
				b = slices.Delete(b, at, at+1)
			}
		case 2:
			if at < len(b) {
				b[at] = put
			}
		}
	}
	return b
}

// P3.5

func TestProgramsAreReadAsTheyWere(t *testing.T) {
	r := rand.New(rand.NewSource(1))
	for range 5000 {
		p := randomProgram(r)
		was := code.Copy(p)
		if !code.May(p) {
			t.Fatalf("%v may not be", p)
		}
		s := code.Text(p)
		if got, e := code.Of(s); e != api.OK || !code.Same(got, p) || s != textByWords(p) {
			t.Fatalf("%v: %q, read as %v, %v", p, s, got, e)
		}
		b, e := code.Bytes(p)
		if e != api.OK || !bytes.Equal(b, bytesByWords(p)) {
			t.Fatalf("%v: %v, %v", p, b, e)
		}
		mustReadBytes(t, b, p, len(b))
		if !code.Same(p, was) {
			t.Fatalf("%v was changed to %v", was, p)
		}
	}
}

func mustBeItsText(t *testing.T, s string) {
	t.Helper()
	p, e := code.Of(s)
	if e == api.OK && (!code.May(p) || code.Text(p) != s) {
		t.Fatalf("%q was read as %v, whose text is %q", s, p, code.Text(p))
	}
	if e != api.OK && e != api.ErrCode {
		t.Fatalf("%q: %v", s, e)
	}
}

func TestTextsAreNoOtherOnes(t *testing.T) {
	r := rand.New(rand.NewSource(2))
	for range 50000 {
		mustBeItsText(t, string(changed(r, []byte(code.Text(randomProgram(r))))))
	}
}

func mustBeItsBytes(t *testing.T, b []byte) {
	t.Helper()
	p, n, e := code.OfBytes(b)
	if e == api.ErrCode {
		return
	}
	if again, _ := code.Bytes(p); e != api.OK || !code.May(p) || n > len(b) || !bytes.Equal(again, b[:n]) {
		t.Fatalf("%v: %v, %d, %v, whose bytes are %v", b, p, n, e, again)
	}
}

func TestBytesAreNoOtherOnes(t *testing.T) {
	r := rand.New(rand.NewSource(3))
	for range 50000 {
		b, _ := code.Bytes(randomProgram(r))
		mustBeItsBytes(t, changed(r, b))
		small := make([]byte, r.Intn(12))
		for i := range small {
			small[i] = byte(r.Intn(4))
		}
		mustBeItsBytes(t, small)
	}
}

func TestUnlikeProgramsHaveUnlikeTextsAndBytes(t *testing.T) {
	texts, all := map[string]api.Program{}, map[string]api.Program{}
	for _, p := range mayBe() {
		s := code.Text(p)
		b, _ := code.Bytes(p)
		if o, ok := texts[s]; ok && !code.Same(o, p) {
			t.Errorf("%v and %v have one text", o, p)
		}
		if o, ok := all[string(b)]; ok && !code.Same(o, p) {
			t.Errorf("%v and %v have the same bytes", o, p)
		}
		texts[s], all[string(b)] = p, p
	}
}

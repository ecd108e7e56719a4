package model_test

import (
	"bytes"
	"math/rand"
	"reflect"
	"slices"
	"strings"
	"testing"

	"riffle/api"
	"riffle/code"
	"riffle/model"
)

// number is any one, often near 0.
func number(r *rand.Rand) int64 {
	return int64(r.Uint64()) >> r.Intn(64)
}

func randomProgram(r *rand.Rand) api.Program {
	p := api.Program{Vars: r.Intn(api.MaxVars + 1), Kinds: make([][]api.Instr, 1+r.Intn(api.MaxKinds))}
	for i := range p.Kinds {
		for range r.Intn(5) {
			o := api.Op(1 + r.Intn(int(api.OpEnd)))
			switch {
			case o == api.OpPush:
				p.Kinds[i] = append(p.Kinds[i], api.Instr{Op: o, N: number(r)})
			case o == api.OpSend:
				p.Kinds[i] = append(p.Kinds[i], api.Instr{Op: o, N: int64(r.Intn(len(p.Kinds)))})
			case !code.Numbered(o):
				p.Kinds[i] = append(p.Kinds[i], api.Instr{Op: o})
			case p.Vars > 0:
				p.Kinds[i] = append(p.Kinds[i], api.Instr{Op: o}) // a jump to the first instruction, or the first variable
			}
		}
	}
	return p
}

// randomModel is one that may be.
func randomModel(r *rand.Rand) api.Model {
	var m api.Model
	for range 1 + r.Intn(api.MaxProcs) {
		p := api.Proc{Program: randomProgram(r), Seed: number(r)}
		for range p.Program.Vars {
			p.Vars = append(p.Vars, number(r))
		}
		m.Procs = append(m.Procs, p)
	}
	for place := range r.Intn(api.MaxFirst + 1) {
		m.First = append(m.First, first(place, r.Int63n(api.MaxTime+1), 1+r.Intn(len(m.Procs)), r.Intn(api.MaxKinds), number(r)))
	}
	return m
}

// smallModel is one of few bytes, that may be.
func smallModel(r *rand.Rand) api.Model {
	m := ofIdle(1+r.Intn(2), r.Intn(3))
	if r.Intn(2) == 0 {
		m.Procs[0] = api.Proc{Program: teller(), Seed: number(r)}
	}
	return m
}

// P9.4

func TestModelsAreReadAsTheyWere(t *testing.T) {
	r := rand.New(rand.NewSource(1))
	for range 1000 {
		m := randomModel(r)
		was := model.Copy(m)
		if !model.May(m) {
			t.Fatalf("%v may not be", m)
		}
		mustBytes(t, m, bytesByWords(m))
		mustBeOf(t, bytesByWords(m), m)
		if s := model.Text(m); s != textByWords(m) {
			t.Fatalf("%v: %q, want %q", m, s, textByWords(m))
		}
		mustRead(t, textByWords(m), m)
		if !reflect.DeepEqual(m, was) {
			t.Fatalf("%v was changed to %v", was, m)
		}
	}
}

// mustBeItsBytes asks whether bytes are either none's, or those of the model which they are read as.
func mustBeItsBytes(t *testing.T, b []byte) (api.Model, bool) {
	t.Helper()
	m, e := model.Of(b)
	if e == api.OK {
		if again, _ := model.Bytes(m); !model.May(m) || !bytes.Equal(again, b) || !bytes.Equal(bytesByWords(m), b) {
			t.Fatalf("%v was read as %v, whose bytes are %v", b, m, again)
		}
		return m, true
	}
	if e != api.ErrModel || !reflect.DeepEqual(m, api.Model{}) {
		t.Fatalf("%v: %v, %v", b, m, e)
	}
	return m, false
}

func TestEachByteChanged(t *testing.T) {
	for _, m := range []api.Model{example(), rich(), ofIdle(2, 2)} {
		b := bytesByWords(m)
		read := 0
		for i := range b {
			for n := 1; n < 256; n++ {
				changed := slices.Clone(b)
				changed[i] ^= byte(n)
				if other, ok := mustBeItsBytes(t, changed); ok {
					read++
					if model.Same(other, m) {
						t.Fatalf("byte %d changed to %d: the same model", i, changed[i])
					}
				}
			}
		}
		if read < 1000 {
			t.Errorf("only %d were read", read)
		}
	}
}

func TestEachLetterChanged(t *testing.T) {
	for _, m := range []api.Model{example(), rich(), ofIdle(2, 2)} {
		s := textByWords(m)
		read := 0
		for i := range s {
			for c := range 256 {
				changed := s[:i] + string([]byte{byte(c)}) + s[i+1:]
				if changed != s && mustBeNoOther(t, changed) {
					read++
					if other, _ := model.Read(changed); model.Same(other, m) {
						t.Fatalf("%q: the same model as %q", changed, s)
					}
				}
			}
		}
		if read < 8 {
			t.Errorf("only %d were read", read)
		}
	}
}

// changed has some bytes taken out, put in, or others.
func changed(r *rand.Rand, b []byte) []byte {
	b = slices.Clone(b)
	for range 1 + r.Intn(3) {
		at := r.Intn(len(b) + 1)
		put := []byte{b[r.Intn(len(b))], byte(r.Intn(256))}[r.Intn(2)]
		switch {
		case r.Intn(3) == 0:
			b = slices.Insert(b, at, put)
		case at == len(b) || len(b) == 1:
		case r.Intn(2) == 0:
			b = slices.Delete(b, at, at+1)
		default:
			b[at] = put
		}
	}
	return b
}

func TestBytesAreNoOtherOnes(t *testing.T) {
	r := rand.New(rand.NewSource(2))
	for i := range 20000 {
		m := smallModel(r)
		if i%20 == 0 {
			m = randomModel(r)
		}
		mustBeItsBytes(t, changed(r, bytesByWords(m)))
		few := make([]byte, r.Intn(50))
		for i := range few {
			few[i] = byte(r.Intn(3))
		}
		mustBeItsBytes(t, few)
	}
}

func TestTextsAreNoOtherOnes(t *testing.T) {
	r := rand.New(rand.NewSource(3))
	for i := range 20000 {
		m := smallModel(r)
		if i%20 == 0 {
			m = randomModel(r)
		}
		mustBeNoOther(t, string(changed(r, []byte(textByWords(m)))))
	}
}

func TestTextsOfLinesByChance(t *testing.T) {
	r := rand.New(rand.NewSource(4))
	l := []string{
		"proc 7\n", "proc 7 5\n", "proc\n", "vars 0\n", "vars 1\n", "kind\n", "  time\n", "  load 0\n", "first 3 1 0 0\n", "first 3 2 0 0\n", "first 3 1 0\n",
		"proc 7\nvars 0\nkind\n", "proc 7 5\nvars 1\nkind\n", "proc -7\nvars 0\n",
	}
	read := 0
	for range 200000 {
		text := strings.Builder{}
		for range 1 + r.Intn(8) {
			text.WriteString(l[r.Intn(len(l))])
		}
		if mustBeNoOther(t, text.String()) {
			read++
		}
	}
	if read < 1000 {
		t.Errorf("only %d were read", read)
	}
}

func TestUnlikeModelsHaveUnlikeTextsAndBytes(t *testing.T) {
	texts, all := map[string]api.Model{}, map[string]api.Model{}
	for _, m := range mayBe() {
		b, _ := model.Bytes(m)
		s := model.Text(m)
		if o, ok := texts[s]; ok && !model.Same(o, m) {
			t.Errorf("%v and %v have one text", o, m)
		}
		if o, ok := all[string(b)]; ok && !model.Same(o, m) {
			t.Errorf("%v and %v have the same bytes", o, m)
		}
		texts[s], all[string(b)] = m, m
	}
}

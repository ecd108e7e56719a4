package code_test

import (
	"math"
	"reflect"
	"slices"
	"strconv"
	"testing"

	"riffle/api"
	"riffle/code"
)

// operation is what the document says of one: its word, and, if its N is named, what that is at least and at most
// in a program of 3 variables and 4 kinds, at a kind of 5 instructions.
type operation struct {
	op       api.Op
	word     string
	numbered bool
	least    int64
	most     int64
}

var operations = []operation{
	{api.OpPush, "push", true, math.MinInt64, math.MaxInt64},
	{api.OpLoad, "load", true, 0, 2},
	{api.OpStore, "store", true, 0, 2},
	{api.OpTime, "time", false, 0, 0},
	{api.OpData, "data", false, 0, 0},
	{api.OpSelf, "self", false, 0, 0},
	{api.OpRand, "rand", false, 0, 0},
	{api.OpAdd, "add", false, 0, 0},
	{api.OpSub, "sub", false, 0, 0},
	{api.OpMul, "mul", false, 0, 0},
	{api.OpLess, "less", false, 0, 0},
	{api.OpSame, "same", false, 0, 0},
	{api.OpJump, "jump", true, 0, 5},
	{api.OpZero, "zero", true, 0, 5},
	{api.OpSend, "send", true, 0, 3},
	{api.OpTell, "tell", false, 0, 0},
	{api.OpEnd, "end", false, 0, 0},
}

// noOperations are beyond api's, also those whose lowest byte is one of them.
var noOperations = []api.Op{0, -1, api.OpEnd + 1, 255, 256 + api.OpPush, 256 + api.OpEnd, -256 + api.OpEnd, math.MinInt, math.MaxInt}

func program(vars int, kinds ...[]api.Instr) api.Program {
	return api.Program{Vars: vars, Kinds: kinds}
}

// within is a program of 3 variables and 4 kinds, with this instruction as the second one of five, at the second kind.
func within(o api.Op, n int64) api.Program {
	end := api.Instr{Op: api.OpEnd}
	return program(3, ends(1), []api.Instr{end, {Op: o, N: n}, end, end, end}, ends(8), nil)
}

func ends(n int) []api.Instr {
	return slices.Repeat([]api.Instr{{Op: api.OpEnd}}, n)
}

// mayBe has programs that may be, at all edges among them.
func mayBe() map[string]api.Program {
	m := map[string]api.Program{
		"the example":       program(0, []api.Instr{{Op: api.OpTime}, {Op: api.OpTell}}),
		"one empty kind":    program(0, nil),
		"most variables":    program(api.MaxVars, []api.Instr{{Op: api.OpLoad, N: api.MaxVars - 1}, {Op: api.OpStore, N: 0}}),
		"most kinds":        program(1, make([][]api.Instr, api.MaxKinds)...),
		"most instructions": program(2, ends(3), ends(api.MaxCode)),
		"most of all":       program(api.MaxVars, slices.Repeat([][]api.Instr{ends(api.MaxCode)}, api.MaxKinds)...),
		"a far jump":        program(0, append(ends(api.MaxCode-1), api.Instr{Op: api.OpJump, N: api.MaxCode})),
		"a send of itself":  program(0, []api.Instr{{Op: api.OpSend}}),
		"a send of most":    program(0, append(make([][]api.Instr, api.MaxKinds-1), []api.Instr{{Op: api.OpSend, N: api.MaxKinds - 1}})...),
		"a send of behind":  program(0, []api.Instr{{Op: api.OpSend, N: 1}}, nil),
		"empty kinds between": program(1, nil, []api.Instr{{Op: api.OpPush, N: -7}, {Op: api.OpSend, N: 2}}, []api.Instr{},
			[]api.Instr{{Op: api.OpZero, N: 1}}, nil),
	}
	for _, o := range operations {
		for _, n := range []int64{o.least, o.most, (o.least + o.most) / 2} {
			m[o.word+" "+strconv.FormatInt(n, 10)] = within(o.op, n)
		}
	}
	return m
}

// mayNotBe has programs in each of which one thing is wrong.
func mayNotBe() map[string]api.Program {
	m := map[string]api.Program{
		"nothing":                   {},
		"no kinds":                  program(1),
		"a variable too many":       program(api.MaxVars+1, nil),
		"variables below 0":         program(-1, nil),
		"variables of a low byte":   program(256, nil),
		"fewest variables":          program(math.MinInt, nil),
		"a kind too many":           program(0, make([][]api.Instr, api.MaxKinds+1)...),
		"kinds of a low byte":       program(0, make([][]api.Instr, 256+1)...),
		"an instruction too many":   program(0, nil, ends(api.MaxCode+1)),
		"one more of all":           program(9, slices.Repeat([][]api.Instr{ends(129)}, 9)...),
		"a load without variables":  program(0, []api.Instr{{Op: api.OpLoad}}),
		"a store without variables": program(0, []api.Instr{{Op: api.OpStore}}),
		"a jump as of another kind": program(0, []api.Instr{{Op: api.OpJump, N: 2}}, ends(5)),
		"a send of no kind":         program(0, []api.Instr{{Op: api.OpSend, N: 1}}),
		"a send as of others":       program(8, ends(8), []api.Instr{{Op: api.OpSend, N: api.MaxKinds - 1}}, ends(8)),
		"wrong in the last kind":    program(1, ends(1), ends(1), []api.Instr{{Op: api.OpLoad, N: 1}}),
		"wrong in the first kind":   program(1, []api.Instr{{Op: api.OpStore, N: 1}}, ends(1), ends(1)),
	}
	for _, o := range operations {
		if o.op == api.OpPush {
			continue
		}
		for _, n := range []int64{o.least - 1, o.most + 1, math.MinInt64, math.MaxInt64, 1 << 32} {
			m[o.word+" "+strconv.FormatInt(n, 10)] = within(o.op, n)
		}
	}
	for _, o := range noOperations {
		m["operation "+strconv.Itoa(int(o))] = within(o, 0)
	}
	return m
}

// P3.1

func TestWord(t *testing.T) {
	for _, o := range operations {
		if w := code.Word(o.op); w != o.word {
			t.Errorf("operation %d: %q, want %q", o.op, w, o.word)
		}
	}
	for _, o := range noOperations {
		if w := code.Word(o); w != "" {
			t.Errorf("operation %d: %q", o, w)
		}
	}
}

func TestNumbered(t *testing.T) {
	for _, o := range operations {
		if code.Numbered(o.op) != o.numbered {
			t.Errorf("%s: %v", o.word, !o.numbered)
		}
	}
	for _, o := range noOperations {
		if code.Numbered(o) {
			t.Errorf("operation %d is numbered", o)
		}
	}
}

func TestMay(t *testing.T) {
	for name, p := range mayBe() {
		if !code.May(p) {
			t.Errorf("%s may not be", name)
		}
	}
	for name, p := range mayNotBe() {
		if code.May(p) {
			t.Errorf("%s may be", name)
		}
	}
}

func TestMayOfJumpsByTheLengthOfTheirKind(t *testing.T) {
	for _, o := range []api.Op{api.OpJump, api.OpZero} {
		for n := range api.MaxCode {
			kind := append(ends(n), api.Instr{Op: o, N: int64(n + 1)})
			if !code.May(program(0, kind)) {
				t.Errorf("%v behind the last of %d", o, n+1)
			}
			kind[n].N++
			if code.May(program(0, kind, ends(api.MaxCode))) {
				t.Errorf("%v beyond %d", o, n+1)
			}
		}
	}
}

func TestMayOfVariablesByTheirNumber(t *testing.T) {
	for vars := range api.MaxVars + 1 {
		for n := range api.MaxVars + 1 {
			for _, o := range []api.Op{api.OpLoad, api.OpStore} {
				if p := program(vars, []api.Instr{{Op: o, N: int64(n)}}); code.May(p) != (n < vars) {
					t.Errorf("%s %d of %d variables: %v", code.Word(o), n, vars, n >= vars)
				}
			}
		}
	}
}

func TestMayOfSendsByTheKindsOfTheirProgram(t *testing.T) {
	for kinds := 1; kinds <= api.MaxKinds; kinds++ {
		for at := range kinds {
			for n := int64(-1); n <= api.MaxKinds; n++ {
				p := program(api.MaxVars, slices.Repeat([][]api.Instr{ends(api.MaxKinds)}, kinds)...)
				p.Kinds[at] = []api.Instr{{Op: api.OpEnd}, {Op: api.OpSend, N: n}}
				if want := n >= 0 && n < int64(kinds); code.May(p) != want {
					t.Errorf("send %d at kind %d of %d: %v", n, at, kinds, !want)
				}
			}
		}
	}
}

// P3.4

func TestCopyIsTheSame(t *testing.T) {
	for _, programs := range []map[string]api.Program{mayBe(), mayNotBe()} {
		for name, p := range programs {
			if c := code.Copy(p); !reflect.DeepEqual(c, p) || !code.Same(c, p) || !code.Same(p, c) {
				t.Errorf("%s: %v, want %v", name, c, p)
			}
		}
	}
}

func TestCopySharesNothing(t *testing.T) {
	instructions := ends(10)
	p := program(2, instructions[:2], instructions[:2], instructions[4:6])
	was := program(2, ends(2), ends(2), ends(2))
	c := code.Copy(p)
	c.Kinds[0][0].N = 7
	c.Kinds[1] = nil
	_ = append(c.Kinds[0], api.Instr{Op: api.OpPush})
	_ = append(c.Kinds, ends(3))
	if !reflect.DeepEqual(p, was) || !slices.Equal(instructions, ends(10)) {
		t.Errorf("changed through its copy to %v", p)
	}
	c = code.Copy(p)
	clear(instructions)
	p.Kinds[1] = nil
	if !reflect.DeepEqual(c, was) {
		t.Errorf("a copy changed to %v", c)
	}
	c.Kinds[0][0].N = 7
	if c.Kinds[1][0].N == 7 {
		t.Error("two kinds of a copy are one")
	}
}

func TestSame(t *testing.T) {
	push := func(n int64) api.Instr { return api.Instr{Op: api.OpPush, N: n} }
	unlike := []api.Program{
		{},
		program(1),
		program(0, nil),
		program(1, nil),
		program(-1, nil),
		program(0, nil, nil),
		program(0, ends(1)),
		program(0, ends(2)),
		program(0, ends(1), nil),
		program(0, nil, ends(1)),
		program(0, ends(1), ends(1)),
		program(0, ends(1), ends(2)),
		program(0, ends(2), ends(1)),
		program(0, []api.Instr{push(0)}),
		program(0, []api.Instr{push(1)}),
		program(0, []api.Instr{push(math.MinInt64)}),
		program(0, []api.Instr{push(0), push(1)}),
		program(0, []api.Instr{push(1), push(0)}),
		program(0, []api.Instr{{Op: api.OpEnd, N: 1}}),
		program(0, []api.Instr{{}}),
	}
	for i, a := range unlike {
		for j, b := range unlike {
			if code.Same(a, b) != (i == j) {
				t.Errorf("%v and %v: %v", a, b, i != j)
			}
		}
	}
	if !code.Same(program(2, nil, ends(1)), program(2, []api.Instr{}, ends(1))) {
		t.Error("two empty kinds are not the same")
	}
	if !code.Same(api.Program{}, api.Program{Kinds: [][]api.Instr{}}) {
		t.Error("two without kinds are not the same")
	}
}

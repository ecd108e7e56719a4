package vm_test

import (
	"math"
	"reflect"
	"slices"
	"testing"

	"riffle/api"
	"riffle/vm"
)

// op is an instruction, and its N, if it has one.
func op(o api.Op, n ...int64) api.Instr {
	return api.Instr{Op: o, N: slices.Concat(n, []int64{0})[0]}
}

func pushes(numbers ...int64) []api.Instr {
	var l []api.Instr
	for _, n := range numbers {
		l = append(l, op(api.OpPush, n))
	}
	return l
}

// times is one instruction, so many times.
func times(n int, i api.Instr) []api.Instr {
	return slices.Repeat([]api.Instr{i}, n)
}

func codeOf(parts ...[]api.Instr) []api.Instr {
	return slices.Concat(parts...)
}

func program(vars int, kinds ...[]api.Instr) api.Program {
	return api.Program{Vars: vars, Kinds: kinds}
}

func state(sent, drawn int64, vars ...int64) api.State {
	return api.State{Vars: vars, Sent: sent, Drawn: drawn}
}

func event(time int64, to, kind int, data int64) api.Event {
	return api.Event{Key: api.Key{Time: time, Origin: 1, Seq: 4}, To: to, Kind: kind, Data: data}
}

func mustMake(t *testing.T, p api.Program, self, procs int, seed int64) *vm.Machine {
	t.Helper()
	m, err := vm.New(p, self, procs, seed)
	if err != api.OK || m == nil {
		t.Fatalf("%v, of process %d of %d: %v, %v", p, self, procs, m, err)
	}
	return m
}

// sameStep is whether both steps are the same, a list of nothing and no list alike.
func sameStep(a, b api.Step) bool {
	return slices.Equal(a.State.Vars, b.State.Vars) && a.State.Sent == b.State.Sent && a.State.Drawn == b.State.Drawn &&
		slices.Equal(a.Sends, b.Sends) && slices.Equal(a.Tells, b.Tells)
}

func mustRun(t *testing.T, m *vm.Machine, s api.State, e api.Event) api.Step {
	t.Helper()
	step, err := m.Run(s, e)
	if err != api.OK {
		t.Fatalf("at %+v in %+v: %v", e, s, err)
	}
	return step
}

func mustComeTo(t *testing.T, m *vm.Machine, s api.State, e api.Event, want api.Step) {
	t.Helper()
	if step := mustRun(t, m, s, e); !sameStep(step, want) {
		t.Errorf("at %+v in %+v: %+v, want %+v", e, s, step, want)
	}
}

func mustRefuse(t *testing.T, m *vm.Machine, s api.State, e api.Event, want api.Errno) {
	t.Helper()
	if step, err := m.Run(s, e); err != want || !reflect.DeepEqual(step, api.Step{}) {
		t.Errorf("at %+v in %+v: %+v, %v, want nothing and %v", e, s, step, err, want)
	}
}

func mustNotMake(t *testing.T, p api.Program, self, procs int, want api.Errno) {
	t.Helper()
	if m, err := vm.New(p, self, procs, 1); m != nil || err != want {
		t.Errorf("%v, of process %d of %d: %v, %v, want %v", p, self, procs, m, err, want)
	}
}

// empty is a program that does nothing.
func empty() api.Program {
	return program(0, nil)
}

// mayNotBe has programs that may not be, by each of their bounds.
func mayNotBe() []api.Program {
	l := []api.Program{
		{}, program(-1, nil), program(api.MaxVars+1, nil), program(0), program(0, make([][]api.Instr, api.MaxKinds+1)...),
		program(0, times(api.MaxCode+1, op(api.OpEnd))),
	}
	for _, i := range []api.Instr{
		op(0), op(-1), op(api.OpEnd + 1), op(api.OpTime, 1), op(api.OpEnd, -1), op(api.OpLoad, 2), op(api.OpLoad, -1), op(api.OpStore, 2),
		op(api.OpJump, -1), op(api.OpJump, 2), op(api.OpZero, 2), op(api.OpSend, 1), op(api.OpSend, -1), op(api.OpSend, api.MaxKinds),
	} {
		l = append(l, program(2, []api.Instr{i}))
	}
	return l
}

// P8.1

func TestNewOfProgramsThatMayNotBe(t *testing.T) {
	for _, p := range mayNotBe() {
		for _, numbers := range [][2]int{{1, 1}, {16, 16}, {0, 1}, {1, 0}, {2, 1}, {1, 17}, {17, 17}, {-1, -1}, {math.MaxInt, math.MinInt}} {
			mustNotMake(t, p, numbers[0], numbers[1], api.ErrCode)
		}
	}
}

func TestNewOfNumbers(t *testing.T) {
	for _, procs := range []int{math.MinInt, -16, -1, 0, 1, 2, 3, 15, 16, 17, 256 + 4, 1<<32 + 4, math.MaxInt} {
		for _, self := range []int{math.MinInt, -1, 0, 1, 2, 3, 4, procs - 1, procs, procs + 1, 1<<32 + 1, math.MaxInt} {
			if procs < 1 || procs > 16 || self < 1 || self > procs {
				mustNotMake(t, empty(), self, procs, api.ErrArg)
			} else if m := mustMake(t, empty(), self, procs, 1); m.Self() != self {
				t.Errorf("process %d of %d: Self is %d", self, procs, m.Self())
			}
		}
	}
}

func TestNewOfAnySeed(t *testing.T) {
	for _, seed := range []int64{math.MinInt64, -1, 0, 1, math.MaxInt64} {
		mustMake(t, empty(), 1, 1, seed)
	}
}

func TestNewOfTheGreatestPrograms(t *testing.T) {
	kinds := slices.Repeat([][]api.Instr{times(api.MaxCode, op(api.OpPush, math.MinInt64))}, api.MaxKinds)
	for self := 1; self <= api.MaxProcs; self++ {
		if m := mustMake(t, program(api.MaxVars, kinds...), self, api.MaxProcs, 1); m.Self() != self {
			t.Errorf("Self is %d, want %d", m.Self(), self)
		}
	}
}

func TestNoMachine(t *testing.T) {
	for name, m := range map[string]*vm.Machine{"nil": nil, "zero": {}} {
		for _, s := range []api.State{{}, state(0, 0), state(-1, 0), state(0, 0, 1)} {
			if m.May(s) {
				t.Errorf("%s: %+v may be", name, s)
			}
			for _, e := range []api.Event{{}, event(0, 1, 0, 0), event(-1, 1, 0, 0)} {
				mustRefuse(t, m, s, e, api.ErrNil)
			}
		}
		if m.Self() != 0 {
			t.Errorf("%s: Self is %d", name, m.Self())
		}
	}
}

func TestMayOfVariables(t *testing.T) {
	for vars := 0; vars <= api.MaxVars; vars++ {
		m := mustMake(t, program(vars, nil), 1, 1, 1)
		for n := 0; n <= api.MaxVars+1; n++ {
			s := state(0, 0, slices.Repeat([]int64{math.MinInt64}, n)...)
			if m.May(s) != (n == vars) {
				t.Errorf("%d variables, of a program of %d: %v", n, vars, m.May(s))
			}
		}
		if m.May(api.State{}) != (vars == 0) {
			t.Errorf("no list, of a program of %d variables: %v", vars, m.May(api.State{}))
		}
	}
}

func TestMayOfSentAndDrawn(t *testing.T) {
	m := mustMake(t, program(1, nil), 1, 1, 1)
	numbers := []int64{math.MinInt64, -1, 0, 1, api.MaxSeq, api.MaxSeq + 1, math.MaxInt64}
	for _, sent := range numbers {
		for _, drawn := range numbers {
			s := state(sent, drawn, 5)
			if want := sent >= 0 && drawn >= 0; m.May(s) != want {
				t.Errorf("%+v: %v", s, !want)
			} else if want {
				mustComeTo(t, m, s, event(3, 1, 0, 0), api.Step{State: s})
			} else {
				mustRefuse(t, m, s, event(3, 1, 0, 0), api.ErrArg)
			}
		}
	}
}

// P8.2

func TestRunOfStatesOfOthers(t *testing.T) {
	m := mustMake(t, program(2, nil), 1, 2, 1)
	for _, s := range []api.State{{}, state(0, 0, 1), state(0, 0, 1, 2, 3), state(-1, 0, 1, 2), state(0, -1, 1, 2)} {
		mustRefuse(t, m, s, event(5, 1, 0, 0), api.ErrArg)
		mustRefuse(t, m, s, event(5, 2, 0, 0), api.ErrArg)
	}
	mustComeTo(t, m, state(0, 0, 1, 2), event(5, 1, 0, 0), api.Step{State: state(0, 0, 1, 2)})
}

func TestRunOfEventsThatMayNotBe(t *testing.T) {
	m := mustMake(t, program(0, nil), 2, 3, 1)
	wrong := []func(e *api.Event, n int64){
		func(e *api.Event, n int64) { e.Time = n },
		func(e *api.Event, n int64) { e.Origin = int(n) },
		func(e *api.Event, n int64) { e.Seq = n },
		func(e *api.Event, n int64) { e.Kind = int(n) },
	}
	for i, most := range []int64{api.MaxTime, api.Outside, api.MaxSeq, api.MaxKinds - 1} {
		for _, n := range []int64{math.MinInt64, -1, 0, 1, most - 1, most, most + 1, math.MaxInt64} {
			e := event(5, 2, 0, 0)
			wrong[i](&e, n)
			if n < 0 || n > most {
				mustRefuse(t, m, state(0, 0), e, api.ErrArg)
			} else {
				mustComeTo(t, m, state(0, 0), e, api.Step{})
			}
		}
	}
}

func TestRunOfEventsForOthers(t *testing.T) {
	for self := 1; self <= 3; self++ {
		m := mustMake(t, empty(), self, 3, 1)
		for _, to := range []int{math.MinInt, -1, 0, 1, 2, 3, 4, 16, 1<<32 + self, math.MaxInt} {
			if to == self {
				mustComeTo(t, m, state(0, 0), event(5, to, 0, 0), api.Step{})
			} else {
				mustRefuse(t, m, state(0, 0), event(5, to, 0, 0), api.ErrArg)
			}
		}
	}
}

func TestRunOfTheExamples(t *testing.T) {
	sends := codeOf(pushes(7, 5, 2), []api.Instr{op(api.OpSend, 1)})
	m := mustMake(t, program(0, sends, nil), 1, 2, 3)
	mustComeTo(t, m, state(0, 0), event(10, 1, 0, 0), api.Step{
		State: state(1, 0),
		Sends: []api.Event{{Key: api.Key{Time: 15, Origin: 1, Seq: 0}, To: 2, Kind: 1, Data: 7}},
	})
	m = mustMake(t, program(0, []api.Instr{op(api.OpPush, 1), op(api.OpJump, 0)}), 1, 1, 3)
	mustComeTo(t, m, state(0, 0), event(10, 1, 0, 0), api.Step{})
}

func TestRunDoesTheEventsKind(t *testing.T) {
	for kinds := 1; kinds <= api.MaxKinds; kinds++ {
		p := program(1)
		for kind := range kinds {
			p.Kinds = append(p.Kinds, codeOf(pushes(int64(10+kind)), []api.Instr{op(api.OpStore, 0)}))
		}
		m := mustMake(t, p, 1, 1, 1)
		for kind := range api.MaxKinds {
			want := state(8, 9, int64(10+kind))
			if kind >= kinds { // one that the program does not have
				want.Vars = []int64{77}
			}
			mustComeTo(t, m, state(8, 9, 77), event(5, 1, kind, 0), api.Step{State: want})
		}
	}
}

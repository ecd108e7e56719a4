package vm_test

import (
	"slices"
	"testing"

	"riffle/api"
)

func values(records []api.Record) []int64 {
	var l []int64
	for _, r := range records {
		l = append(l, r.Value)
	}
	return l
}

// tells is code that tells these, one by one.
func tells(numbers ...int64) []api.Instr {
	var l []api.Instr
	for _, n := range numbers {
		l = append(l, op(api.OpPush, n), op(api.OpTell))
	}
	return l
}

// P8.2

func TestTell(t *testing.T) {
	for self := 1; self <= 3; self++ {
		m := mustMake(t, program(0, tells(7, least, greatest, 0)), self, 3, 1)
		for _, k := range []api.Key{{}, {Time: 10, Origin: 2, Seq: 9}, {Time: api.MaxTime, Origin: api.Outside, Seq: api.MaxSeq}} {
			mustComeTo(t, m, state(1, 2), api.Event{Key: k, To: self, Data: 77}, api.Step{State: state(1, 2), Tells: []api.Record{
				{Key: k, Proc: self, Nth: 0, Value: 7},
				{Key: k, Proc: self, Nth: 1, Value: least},
				{Key: k, Proc: self, Nth: 2, Value: greatest},
				{Key: k, Proc: self, Nth: 3, Value: 0},
			}})
		}
	}
}

func TestTellsAreAtMostFour(t *testing.T) {
	for n := range 8 {
		step := run(t, tells(numbers(n)...))
		if v := values(step.Tells); !slices.Equal(v, numbers(min(n, 4))) {
			t.Errorf("%d told: %v", n, v)
		}
		for i, r := range step.Tells {
			if r.Nth != i || r.Proc != 2 || r.Key != event(10, 2, 0, 6).Key {
				t.Errorf("%d told: %+v", n, r)
			}
		}
	}
}

func TestTellTakesOne(t *testing.T) {
	mustLeave(t, codeOf(pushes(98, 99), []api.Instr{op(api.OpStore, 1), op(api.OpStore, 1)}), 0)
	step := run(t, codeOf(pushes(1, 2, 3), times(4, op(api.OpTell))))
	if v := values(step.Tells); !slices.Equal(v, []int64{3, 2, 1, 0}) {
		t.Errorf("told %v of 1, 2, 3 and an empty stack", v)
	}
}

func TestTellBeyondFourTakesAllTheSame(t *testing.T) {
	for n := range 9 {
		step := run(t, codeOf(pushes(numbers(10)...), times(n, op(api.OpTell)), []api.Instr{op(api.OpStore, 2)}))
		if left := step.State.Vars[2]; left != int64(10-n) || len(step.Tells) != min(n, 4) {
			t.Errorf("%d tells of 10 to 1: the next one is %d, told %v", n, left, step.Tells)
		}
	}
}

func TestTellsAreCountedFromEachRunOn(t *testing.T) {
	m := mustMake(t, program(0, tells(5, 6, 7)), 1, 1, 1)
	for time := range int64(4) {
		for i, r := range mustRun(t, m, state(0, 0), event(time, 1, 0, 0)).Tells {
			if r.Nth != i || r.Time != time {
				t.Errorf("at %d: %+v", time, r)
			}
		}
	}
}

func TestTellsAndSendsAreCountedApart(t *testing.T) {
	var code []api.Instr
	for n := range int64(4) {
		code = codeOf(code, tells(n), sends(n, 1, 2))
	}
	if step := run(t, code); len(step.Tells) != 4 || len(step.Sends) != 4 || step.State.Sent != 9 {
		t.Errorf("%+v", step)
	}
}

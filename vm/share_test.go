package vm_test

import (
	"math/rand"
	"slices"
	"sync"
	"testing"

	"riffle/api"
	"riffle/code"
	"riffle/vm"
)

// busy is a program that does something of all: it changes variables, draws, sends and tells.
func busy() api.Program {
	kind := codeOf(
		[]api.Instr{op(api.OpLoad, 0), op(api.OpPush, 1), op(api.OpAdd), op(api.OpStore, 0), op(api.OpRand), op(api.OpStore, 1)},
		sends(5, 6, 2), sends(7, 8, 3), tells(9, 10), []api.Instr{op(api.OpLoad, 1), op(api.OpTell)},
	)
	return program(2, kind, times(3, op(api.OpTell)))
}

func busyStep() api.Step {
	key := event(10, 2, 0, 0).Key
	drawn := chanceByWords(seed, 4)
	return api.Step{
		State: state(5, 5, 12, drawn),
		Sends: []api.Event{sent(16, 2, 3, 2, 1, 5), sent(18, 2, 4, 3, 1, 7)},
		Tells: []api.Record{{Key: key, Proc: 2, Value: 9}, {Key: key, Proc: 2, Nth: 1, Value: 10}, {Key: key, Proc: 2, Nth: 2, Value: drawn}},
	}
}

func mustBeBusy(t *testing.T, m *vm.Machine) {
	t.Helper()
	mustComeTo(t, m, state(3, 4, 11, 22), event(10, 2, 0, 0), busyStep())
}

// spoil changes all that an answer has, and what its lists have room for.
func spoil(step api.Step) {
	clear(append(step.State.Vars, 1)[:cap(step.State.Vars)])
	clear(step.State.Vars)
	clear(step.Sends[:cap(step.Sends)])
	clear(step.Tells[:cap(step.Tells)])
}

// P8.3, and what holds everywhere

func TestNewKeepsNothingOfWhatIsHandedIn(t *testing.T) {
	p := busy()
	m := mustMake(t, p, 2, 3, seed)
	if !code.Same(p, busy()) {
		t.Errorf("the program was changed to %v", p)
	}
	for _, kind := range p.Kinds {
		clear(kind)
	}
	clear(p.Kinds)
	mustBeBusy(t, m)
}

func TestRunChangesNothingOfWhatIsHandedIn(t *testing.T) {
	p := busy()
	m := mustMake(t, p, 2, 3, seed)
	whole := []int64{11, 22, 33, 44}
	s := state(3, 4, whole[:2]...)
	step := mustRun(t, m, s, event(10, 2, 0, 0))
	if !slices.Equal(whole, []int64{11, 22, 33, 44}) || s.Sent != 3 || s.Drawn != 4 || len(s.Vars) != 2 {
		t.Errorf("the state was changed to %+v, of %v", s, whole)
	}
	spoil(step)
	if !slices.Equal(whole, []int64{11, 22, 33, 44}) {
		t.Errorf("the state was changed through the answer to %v", whole)
	}
	step = mustRun(t, m, s, event(10, 2, 0, 0))
	clear(whole)
	if !sameStep(step, busyStep()) {
		t.Errorf("the answer was changed through the state to %+v", step)
	}
	if !code.Same(p, busy()) {
		t.Errorf("the program was changed to %v", p)
	}
}

func TestRunOfAKindThatIsNotThereSharesNothing(t *testing.T) {
	m := mustMake(t, busy(), 2, 3, seed)
	vars := []int64{11, 22}
	step := mustRun(t, m, state(3, 4, vars...), event(10, 2, 7, 0))
	clear(step.State.Vars)
	if !slices.Equal(vars, []int64{11, 22}) {
		t.Errorf("the state was changed through the answer to %v", vars)
	}
}

func TestRunWithoutVariablesSharesNothing(t *testing.T) {
	whole := []int64{11, 22}
	step := mustRun(t, mustMake(t, program(0, tells(5)), 1, 1, 1), state(3, 4, whole[:0]...), event(10, 1, 0, 0))
	spoil(step)
	if !slices.Equal(whole, []int64{11, 22}) {
		t.Errorf("what stands behind the state was changed through the answer to %v", whole)
	}
}

func TestAnswersShareNothing(t *testing.T) {
	m := mustMake(t, busy(), 2, 3, seed)
	for range 3 {
		a := mustRun(t, m, state(3, 4, 11, 22), event(10, 2, 0, 0))
		b := mustRun(t, m, state(3, 4, 11, 22), event(10, 2, 0, 0))
		spoil(a)
		if !sameStep(b, busyStep()) {
			t.Errorf("an answer was changed through another one to %+v", b)
		}
		mustBeBusy(t, m)
	}
}

func TestARefusedRunChangesNothing(t *testing.T) {
	m := mustMake(t, busy(), 2, 3, seed)
	mustRefuse(t, m, state(3, 4, 11), event(10, 2, 0, 0), api.ErrArg)
	mustRefuse(t, m, state(3, 4, 11, 22), event(10, 1, 0, 0), api.ErrArg)
	mustBeBusy(t, m)
}

func TestTheSameIsAnsweredTheSame(t *testing.T) {
	a, b := mustMake(t, busy(), 2, 3, seed), mustMake(t, busy(), 2, 3, seed)
	mustBeBusy(t, a)
	mustRun(t, a, state(0, 0, 1, 2), event(99, 2, 1, 4)) // what was run in between does not tell
	mustBeBusy(t, a)
	mustBeBusy(t, b)
	r := rand.New(rand.NewSource(3))
	for range 500 {
		s, e := state(r.Int63(), r.Int63(), r.Int63(), r.Int63()), event(r.Int63n(1000), 2, r.Intn(8), r.Int63())
		want := mustRun(t, a, s, e)
		mustComeTo(t, a, s, e, want)
		mustComeTo(t, b, s, e, want)
	}
}

func TestRunsBesideOneAnother(t *testing.T) {
	m := mustMake(t, busy(), 2, 3, seed)
	var group sync.WaitGroup
	for range 8 {
		group.Go(func() {
			for range 200 {
				if step, err := m.Run(state(3, 4, 11, 22), event(10, 2, 0, 0)); err != api.OK || !sameStep(step, busyStep()) {
					t.Errorf("%+v, %v", step, err)
				}
			}
		})
	}
	group.Wait()
}

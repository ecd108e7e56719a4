package vm_test

import (
	"math"
	"slices"
	"testing"

	"riffle/api"
	"riffle/vm"
)

const (
	least    = math.MinInt64
	greatest = math.MaxInt64
	seed     = 7
)

// run is a run of this code, at process 2 of 3, at time 10 with the datum 6, with three variables.
func run(t *testing.T, code []api.Instr) api.Step {
	t.Helper()
	m := mustMake(t, program(3, code, nil), 2, 3, seed)
	return mustRun(t, m, state(5, 8, 100, 200, 300), event(10, 2, 0, 6))
}

// mustLeave asks what lies on the stack behind the code, the last one first.
func mustLeave(t *testing.T, code []api.Instr, want ...int64) {
	t.Helper()
	var got []int64
	for i := range want {
		step := run(t, codeOf(code, times(i, op(api.OpStore, 0)), []api.Instr{op(api.OpTell)}))
		got = append(got, step.Tells[0].Value)
	}
	if !slices.Equal(got, want) {
		t.Errorf("%v leaves %v, want %v", code, got, want)
	}
}

// P8.2

func TestPush(t *testing.T) {
	for _, n := range []int64{least, -1, 0, 1, greatest} {
		mustLeave(t, pushes(99, n), n, 99, 0)
	}
}

func TestLoad(t *testing.T) {
	for i, n := range []int64{100, 200, 300} {
		mustLeave(t, codeOf(pushes(99), []api.Instr{op(api.OpLoad, int64(i))}), n, 99, 0)
	}
}

func TestStore(t *testing.T) {
	for i := range 3 {
		for _, n := range []int64{least, -1, 0, greatest} {
			want := []int64{100, 200, 300}
			want[i] = n
			stores := codeOf(pushes(99, n), []api.Instr{op(api.OpStore, int64(i))})
			if step := run(t, stores); !slices.Equal(step.State.Vars, want) {
				t.Errorf("%v: %v, want %v", stores, step.State.Vars, want)
			}
			mustLeave(t, stores, 99, 0)
			mustLeave(t, codeOf(stores, []api.Instr{op(api.OpLoad, int64(i))}), n, 99, 0)
		}
	}
	if step := run(t, []api.Instr{op(api.OpStore, 1)}); !slices.Equal(step.State.Vars, []int64{100, 0, 300}) {
		t.Errorf("of an empty stack %v is stored", step.State.Vars)
	}
}

func TestLastVariable(t *testing.T) {
	m := mustMake(t, program(8, codeOf([]api.Instr{op(api.OpLoad, 7), op(api.OpStore, 0)}, pushes(-4), []api.Instr{op(api.OpStore, 7)})), 1, 1, 1)
	mustComeTo(t, m, state(0, 0, 1, 2, 3, 4, 5, 6, 7, 8), event(0, 1, 0, 0), api.Step{State: state(0, 0, 8, 2, 3, 4, 5, 6, 7, -4)})
}

func TestTimeDataSelf(t *testing.T) {
	mustLeave(t, codeOf(pushes(99), []api.Instr{op(api.OpTime)}), 10, 99, 0)
	mustLeave(t, codeOf(pushes(99), []api.Instr{op(api.OpData)}), 6, 99, 0)
	mustLeave(t, codeOf(pushes(99), []api.Instr{op(api.OpSelf)}), 2, 99, 0)
}

func TestTimeDataSelfAtTheirEdges(t *testing.T) {
	p := program(3, []api.Instr{op(api.OpTime), op(api.OpStore, 0), op(api.OpData), op(api.OpStore, 1), op(api.OpSelf), op(api.OpStore, 2)})
	for _, self := range []int{1, 2, api.MaxProcs} {
		m := mustMake(t, p, self, api.MaxProcs, 1)
		for _, time := range []int64{0, 1, api.MaxTime} {
			for _, data := range []int64{least, -1, 0, 1, greatest} {
				mustComeTo(t, m, state(0, 0, 9, 9, 9), event(time, self, 0, data), api.Step{State: state(0, 0, time, data, int64(self))})
			}
		}
	}
}

func TestOperationsOfTwo(t *testing.T) {
	for _, c := range []struct {
		op         api.Op
		a, b, want int64
	}{
		{api.OpAdd, 5, 3, 8}, {api.OpAdd, -5, 3, -2}, {api.OpAdd, greatest, 1, least}, {api.OpAdd, least, -1, greatest},
		{api.OpAdd, least, least, 0}, {api.OpAdd, greatest, greatest, -2}, {api.OpAdd, least, greatest, -1},
		{api.OpSub, 5, 3, 2}, {api.OpSub, 3, 5, -2}, {api.OpSub, least, 1, greatest}, {api.OpSub, greatest, -1, least},
		{api.OpSub, 0, least, least}, {api.OpSub, least, least, 0}, {api.OpSub, least, greatest, 1}, {api.OpSub, -1, least, greatest},
		{api.OpMul, 5, -3, -15}, {api.OpMul, least, -1, least}, {api.OpMul, least, 2, 0}, {api.OpMul, greatest, 2, -2},
		{api.OpMul, greatest, greatest, 1}, {api.OpMul, 1 << 32, 1 << 32, 0}, {api.OpMul, 1 << 32, 1 << 31, least}, {api.OpMul, least, least, 0},
		{api.OpLess, 3, 5, 1}, {api.OpLess, 5, 3, 0}, {api.OpLess, 4, 4, 0}, {api.OpLess, least, greatest, 1}, {api.OpLess, greatest, least, 0},
		{api.OpLess, -1, 0, 1}, {api.OpLess, 0, -1, 0}, {api.OpLess, least, least, 0}, {api.OpLess, greatest, greatest, 0}, {api.OpLess, least, 0, 1},
		{api.OpSame, 4, 4, 1}, {api.OpSame, 4, 5, 0}, {api.OpSame, 5, 4, 0}, {api.OpSame, least, least, 1}, {api.OpSame, least, greatest, 0},
		{api.OpSame, 0, 0, 1}, {api.OpSame, 0, 1 << 32, 0}, {api.OpSame, 0, least, 0}, {api.OpSame, -1, greatest, 0},
	} {
		mustLeave(t, codeOf(pushes(99, c.a, c.b), []api.Instr{op(c.op)}), c.want, 99, 0)
	}
}

func TestOperationsOfTwoTakeNoughtsOfAnEmptyStack(t *testing.T) {
	for o, want := range map[api.Op][2]int64{ // of an empty stack; of one that has 5, which is b then
		api.OpAdd: {0, 5}, api.OpSub: {0, -5}, api.OpMul: {0, 0}, api.OpLess: {0, 1}, api.OpSame: {1, 0},
	} {
		mustLeave(t, []api.Instr{op(o)}, want[0], 0)
		mustLeave(t, []api.Instr{op(api.OpPush, 5), op(o)}, want[1], 0)
		mustLeave(t, []api.Instr{op(o), op(api.OpPush, 99)}, 99, want[0], 0)
	}
}

// numbers are 1 to n.
func numbers(n int) []int64 {
	var l []int64
	for i := range n {
		l = append(l, int64(i+1))
	}
	return l
}

func mustBeFull(t *testing.T, code []api.Instr) {
	t.Helper()
	want := numbers(api.MaxStack)
	slices.Reverse(want)
	mustLeave(t, code, append(want, 0, 0)...)
}

func TestStackHasRoomForSixteen(t *testing.T) {
	for n := 15; n <= 19; n++ {
		want := numbers(min(n, 16))
		slices.Reverse(want)
		mustLeave(t, pushes(numbers(n)...), append(want, 0)...)
	}
}

func TestAllThatIsPushedBeyondIsLetBe(t *testing.T) {
	full := pushes(numbers(api.MaxStack)...)
	for _, i := range []api.Instr{op(api.OpPush, 99), op(api.OpLoad, 1), op(api.OpTime), op(api.OpData), op(api.OpSelf), op(api.OpRand)} {
		mustBeFull(t, codeOf(full, []api.Instr{i}))
		mustBeFull(t, codeOf(full, times(3, i)))
		mustLeave(t, codeOf(full, []api.Instr{i, op(api.OpAdd), op(api.OpPush, 50)}), 50, 31, 14, 13)
	}
}

func TestStackIsNewAtEachRun(t *testing.T) {
	m := mustMake(t, program(1, codeOf([]api.Instr{op(api.OpStore, 0)}, pushes(numbers(20)...))), 1, 1, 1)
	for range 3 {
		mustComeTo(t, m, state(0, 0, 44), event(0, 1, 0, 0), api.Step{State: state(0, 0, 0)})
	}
}

func TestJump(t *testing.T) {
	one, two, three := op(api.OpPush, 1), op(api.OpPush, 2), op(api.OpPush, 3)
	mustLeave(t, []api.Instr{op(api.OpJump, 2), one, two, three}, 3, 2, 0)
	mustLeave(t, []api.Instr{op(api.OpJump, 1), one, two}, 2, 1, 0)
	mustLeave(t, []api.Instr{op(api.OpPush, 9), op(api.OpJump, 4), one, two, three}, 3, 9, 0)             // over two, the stack as it was
	mustLeave(t, []api.Instr{op(api.OpJump, 3), one, op(api.OpJump, 5), two, op(api.OpJump, 1)}, 1, 2, 0) // ahead, and back
}

func TestJumpToTheFirstTheLastAndBehind(t *testing.T) {
	toFirst := []api.Instr{op(api.OpLoad, 0), op(api.OpPush, 1), op(api.OpAdd), op(api.OpStore, 0), op(api.OpJump, 0)}
	toLast := []api.Instr{op(api.OpJump, 3), op(api.OpPush, 5), op(api.OpStore, 0), op(api.OpTell)}
	behind := []api.Instr{op(api.OpJump, 4), op(api.OpPush, 5), op(api.OpStore, 0), op(api.OpTell)}
	key := event(2, 1, 0, 0).Key
	for _, c := range []struct {
		code []api.Instr
		want api.Step
	}{
		{toFirst, api.Step{State: state(0, 0, 7+51)}}, // 256 instructions are 51 times round, and one
		{toLast, api.Step{State: state(0, 0, 7), Tells: []api.Record{{Key: key, Proc: 1}}}},
		{behind, api.Step{State: state(0, 0, 7)}},
	} {
		mustComeTo(t, mustMake(t, program(1, c.code), 1, 1, 1), state(0, 0, 7), event(2, 1, 0, 0), c.want)
	}
}

func TestZero(t *testing.T) {
	for _, n := range []int64{least, -1, 0, 1, 1 << 32, greatest} {
		want := []int64{2, 1, 99, 0}
		if n == 0 {
			want = []int64{2, 99, 0}
		}
		mustLeave(t, codeOf(pushes(99, n), []api.Instr{op(api.OpZero, 4), op(api.OpPush, 1), op(api.OpPush, 2)}), want...)
	}
	mustLeave(t, []api.Instr{op(api.OpZero, 2), op(api.OpPush, 1), op(api.OpPush, 2)}, 2, 0)                       // of an empty stack
	mustLeave(t, []api.Instr{op(api.OpPush, 0), op(api.OpPush, 5), op(api.OpZero, 4), op(api.OpPush, 1)}, 1, 0, 0) // one is taken
}

func TestZeroBackToTheFirst(t *testing.T) {
	// counts the variable up to 3, and leaves the loop by what 'less' tells
	code := []api.Instr{
		op(api.OpLoad, 0), op(api.OpPush, 1), op(api.OpAdd), op(api.OpStore, 0),
		op(api.OpPush, 2), op(api.OpLoad, 0), op(api.OpLess), op(api.OpZero, 0), op(api.OpLoad, 0), op(api.OpTell),
	}
	m := mustMake(t, program(1, code), 1, 1, 1)
	e := event(2, 1, 0, 0)
	mustComeTo(t, m, state(0, 0, 0), e, api.Step{State: state(0, 0, 3), Tells: []api.Record{{Key: e.Key, Proc: 1, Value: 3}}})
}

func TestEnd(t *testing.T) {
	for n := range 4 {
		code := codeOf(times(n, op(api.OpTell)), []api.Instr{op(api.OpEnd)}, times(3, op(api.OpTell)))
		if step := run(t, code); len(step.Tells) != n {
			t.Errorf("%v tells %v", code, step.Tells)
		}
	}
	if step := run(t, nil); !sameStep(step, api.Step{State: state(5, 8, 100, 200, 300)}) {
		t.Errorf("no instruction comes to %+v", step)
	}
	if step := run(t, pushes(1)); !sameStep(step, api.Step{State: state(5, 8, 100, 200, 300)}) {
		t.Errorf("a push alone comes to %+v", step)
	}
}

// steps are so many instructions that do nothing, each but a jump to the next one.
func steps(n int) []api.Instr {
	var l []api.Instr
	for i := range n {
		l = append(l, op(api.OpJump, int64(i+1)))
	}
	return l
}

// countdown is code that does nothing at first, so often, then counts the variable 0 down to 0, by seven instructions each time and two at the last, and tells.
func countdown(ahead int) []api.Instr {
	at := int64(ahead)
	return codeOf(steps(ahead), []api.Instr{
		op(api.OpLoad, 0), op(api.OpZero, at+7),
		op(api.OpLoad, 0), op(api.OpPush, -1), op(api.OpAdd), op(api.OpStore, 0), op(api.OpJump, at),
		op(api.OpTell),
	})
}

func TestJustAsManyInstructionsAsFuelAndOneMore(t *testing.T) {
	const rounds = 20
	for ahead := range api.MaxCode - 7 {
		done := ahead + 7*rounds + 2 + 1 // with the one that tells
		step := mustRun(t, mustMake(t, program(1, countdown(ahead)), 1, 1, 1), state(0, 0, rounds), event(2, 1, 0, 0))
		if told := len(step.Tells) == 1; told != (done <= 256) {
			t.Errorf("%d instructions come to %+v", done, step)
		}
	}
}

func TestEachInstructionCountsAsOne(t *testing.T) {
	for o := api.OpPush; o < api.OpEnd; o++ {
		i, drawn := op(o), int64(85) // three instructions each time, and the 256th is this one
		switch o {
		case api.OpJump, api.OpZero:
			i.N = 1
		case api.OpRand:
			drawn = 85 + 86
		}
		m := mustMake(t, program(1, []api.Instr{i, op(api.OpRand), op(api.OpJump, 0)}), 1, 1, 1)
		if step := mustRun(t, m, state(0, 0, 20), event(2, 1, 0, 0)); step.State.Drawn != drawn {
			t.Errorf("operation %d: %d drawn, want %d", o, step.State.Drawn, drawn)
		}
	}
}

func TestEndlessCodeEndsBehindTheFuel(t *testing.T) {
	for n := 1; n < api.MaxCode; n++ { // n numbers are drawn, then a jump: n+1 instructions
		m := mustMake(t, program(0, append(times(n, op(api.OpRand)), op(api.OpJump, 0))), 1, 1, 1)
		drawn := int64(256/(n+1)*n + min(256%(n+1), n))
		mustComeTo(t, m, state(0, 0), event(2, 1, 0, 0), api.Step{State: state(0, drawn)})
	}
}

func TestEndAsTheLastOfTheFuel(t *testing.T) {
	code := countdown(113)
	code[len(code)-1] = op(api.OpEnd)
	m := mustMake(t, program(1, code), 1, 1, 1)
	mustComeTo(t, m, state(0, 0, 20), event(2, 1, 0, 0), api.Step{State: state(0, 0, 0)})
}

func TestFuelIsNewAtEachRun(t *testing.T) {
	m := mustMake(t, program(1, countdown(0), countdown(113)), 1, 1, 1)
	for range 3 {
		for kind := range 2 {
			if step := mustRun(t, m, state(0, 0, 20), event(2, 1, kind, 0)); len(step.Tells) != 1 {
				t.Errorf("kind %d: %+v", kind, step)
			}
		}
	}
}

func TestRandPushesChance(t *testing.T) {
	mustLeave(t, codeOf(pushes(99), []api.Instr{op(api.OpRand)}), vm.Chance(seed, 8), 99, 0)
	mustLeave(t, times(3, op(api.OpRand)), vm.Chance(seed, 10), vm.Chance(seed, 9), vm.Chance(seed, 8), 0)
	for _, n := range []int{1, 2, 16, 17, 128} {
		if step := run(t, times(n, op(api.OpRand))); step.State.Drawn != int64(8+n) || step.State.Sent != 5 {
			t.Errorf("%d numbers drawn from 8 on: %+v", n, step.State)
		}
	}
}

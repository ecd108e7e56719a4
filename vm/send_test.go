package vm_test

import (
	"slices"
	"testing"

	"riffle/api"
)

// sends is code that sends an event of the kind 1.
func sends(data, delay, to int64) []api.Instr {
	return codeOf(pushes(data, delay, to), []api.Instr{op(api.OpSend, 1)})
}

func sent(time int64, origin int, seq int64, to, kind int, data int64) api.Event {
	return api.Event{Key: api.Key{Time: time, Origin: origin, Seq: seq}, To: to, Kind: kind, Data: data}
}

// mustSend asks what is sent by this code, at a time, by a process that has sent so many.
func mustSend(t *testing.T, code []api.Instr, self, procs int, time, before int64, want ...api.Event) {
	t.Helper()
	m := mustMake(t, program(0, code, nil), self, procs, 1)
	step := mustRun(t, m, state(before, 0), event(time, self, 0, 0))
	if !slices.Equal(step.Sends, want) {
		t.Errorf("%v, process %d of %d, at %d: %+v, want %+v", code, self, procs, time, step.Sends, want)
	}
	if step.State.Sent != before+int64(len(want)) {
		t.Errorf("%v, process %d of %d, at %d: Sent was %d, is %d", code, self, procs, time, before, step.State.Sent)
	}
}

// P8.2

func TestSendToWhom(t *testing.T) {
	for _, procs := range []int{1, 2, 3, 5, 7, 15, 16} {
		n := int64(procs)
		for to, want := range map[int64]int{
			1: 1, n: procs, n + 1: 1, 0: procs, 2*n + 1: 1, 2 * n: procs, -n: procs, -n + 1: 1, -n - 1: max(1, procs-1), -1000 * n: procs,
		} {
			mustSend(t, sends(7, 5, to), 1, procs, 10, 0, sent(15, 1, 0, want, 1, 7))
		}
		for to := -40; to <= 40; to++ {
			want := 1
			for at := -80*procs + 1; at != to; at++ { // count up from a number that is as 1
				want = want%procs + 1
			}
			mustSend(t, sends(7, 5, int64(to)), procs, procs, 10, 0, sent(15, procs, 0, want, 1, 7))
		}
	}
}

func TestSendToTheLeastAndTheGreatestNumber(t *testing.T) {
	// -2^63 - 1 is 1 modulo 2, 0 modulo 3, 1 modulo 5, 5 modulo 7, and 15 modulo 16; 2^63 - 2 is 0, 0, 1, 6, 14.
	for procs, want := range map[int][2]int{1: {1, 1}, 2: {2, 1}, 3: {1, 1}, 5: {2, 2}, 7: {6, 7}, 16: {16, 15}} {
		mustSend(t, sends(7, 5, least), 1, procs, 10, 0, sent(15, 1, 0, want[0], 1, 7))
		mustSend(t, sends(7, 5, greatest), 1, procs, 10, 0, sent(15, 1, 0, want[1], 1, 7))
	}
}

func TestSendWithDelays(t *testing.T) {
	for delay, want := range map[int64]int64{
		least: 1, -api.MaxDelay: 1, -1: 1, 0: 1, 1: 1, 2: 2, 1<<20 - 1: 1<<20 - 1, 1 << 20: 1 << 20, 1<<20 + 1: 1 << 20, 1 << 40: 1 << 20, greatest: 1 << 20,
	} {
		for _, time := range []int64{0, 10, api.MaxTime - api.MaxDelay} {
			mustSend(t, sends(7, delay, 2), 3, 4, time, 0, sent(time+want, 3, 0, 2, 1, 7))
		}
	}
}

func TestSendUpToMaxTime(t *testing.T) {
	for _, c := range []struct{ time, delay int64 }{
		{api.MaxTime - 1, 1}, {api.MaxTime - 1, -5}, {api.MaxTime - 100, 100}, {api.MaxTime - api.MaxDelay, api.MaxDelay}, {api.MaxTime - api.MaxDelay, greatest},
	} {
		mustSend(t, sends(7, c.delay, 2), 3, 4, c.time, 6, sent(api.MaxTime, 3, 6, 2, 1, 7))
		mustSend(t, sends(7, c.delay, 2), 3, 4, c.time+1, 6)
	}
	mustSend(t, sends(7, 1, 2), 3, 4, api.MaxTime, 6)
	mustSend(t, sends(7, greatest, 2), 3, 4, api.MaxTime, 6)
	mustSend(t, sends(7, least, 2), 3, 4, api.MaxTime, 6)
}

func TestSendBeyondMaxTimeAmongOthers(t *testing.T) {
	code := codeOf(sends(1, 9, 1), sends(2, 10, 2), sends(3, 11, 3), sends(4, 8, 1))
	mustSend(t, code, 1, 3, api.MaxTime-9, 20, sent(api.MaxTime, 1, 20, 1, 1, 1), sent(api.MaxTime-1, 1, 21, 1, 1, 4))
	// what is not sent does not count among MaxSends
	code = codeOf(sends(0, 10, 1), sends(1, 9, 1), sends(2, 10, 1), sends(3, 1, 1), sends(4, 1, 1), sends(5, 10, 1), sends(6, 1, 1), sends(7, 1, 1))
	time := int64(api.MaxTime - 9)
	mustSend(t, code, 1, 1, time, 0, sent(api.MaxTime, 1, 0, 1, 1, 1), sent(time+1, 1, 1, 1, 1, 3), sent(time+1, 1, 2, 1, 1, 4), sent(time+1, 1, 3, 1, 1, 6))
}

func TestSendTakesOfAnEmptyStack(t *testing.T) {
	last := op(api.OpSend, 0)
	mustSend(t, []api.Instr{last}, 1, 3, 10, 0, sent(11, 1, 0, 3, 0, 0))
	mustSend(t, codeOf(pushes(2), []api.Instr{last}), 1, 3, 10, 0, sent(11, 1, 0, 2, 0, 0))
	mustSend(t, codeOf(pushes(9, 2), []api.Instr{last}), 1, 3, 10, 0, sent(19, 1, 0, 2, 0, 0))
	mustSend(t, codeOf(pushes(8, 9, 2), []api.Instr{last}), 1, 3, 10, 0, sent(19, 1, 0, 2, 0, 8))
}

func TestSendTakesThree(t *testing.T) {
	for _, time := range []int64{10, api.MaxTime} { // sent, or not
		code := codeOf(pushes(99, 98), times(6, op(api.OpPush, 3)), times(2, op(api.OpSend, 0)), times(3, op(api.OpTell)))
		step := mustRun(t, mustMake(t, program(0, code), 1, 1, 1), state(0, 0), event(time, 1, 0, 0))
		if v := values(step.Tells); !slices.Equal(v, []int64{98, 99, 0}) {
			t.Errorf("at %d: left %v", time, v)
		}
	}
}

func TestSendOfData(t *testing.T) {
	for _, data := range []int64{least, -1, 0, 1, greatest} {
		mustSend(t, sends(data, 5, 2), 1, 2, 10, 0, sent(15, 1, 0, 2, 1, data))
	}
}

func TestSendOfKinds(t *testing.T) {
	for kind := range api.MaxKinds {
		code := codeOf(pushes(7, 5, 1), []api.Instr{op(api.OpSend, int64(kind))})
		m := mustMake(t, program(0, slices.Repeat([][]api.Instr{code}, api.MaxKinds)...), 1, 1, 1)
		for at := range api.MaxKinds {
			mustComeTo(t, m, state(0, 0), event(10, 1, at, 0), api.Step{State: state(1, 0), Sends: []api.Event{sent(15, 1, 0, 1, kind, 7)}})
		}
	}
}

func TestSendsAreAtMostFour(t *testing.T) {
	for n := range 8 {
		var code []api.Instr
		var want []api.Event
		for i := range n {
			code = append(code, sends(int64(i), int64(n-i), int64(i))...)
			if i < 4 {
				want = append(want, sent(10+int64(n-i), 2, 30+int64(i), (i+2)%3+1, 1, int64(i)))
			}
		}
		mustSend(t, code, 2, 3, 10, 30, want...)
	}
}

func TestSendBeyondFourTakesAllTheSame(t *testing.T) {
	for n := 3; n <= 6; n++ {
		code := pushes(97, 98, 99)
		for range n {
			code = append(code, sends(5, 6, 7)...)
		}
		step := mustRun(t, mustMake(t, program(0, append(code, times(4, op(api.OpTell))...), nil), 1, 1, 1), state(0, 0), event(10, 1, 0, 0))
		if v := values(step.Tells); !slices.Equal(v, []int64{99, 98, 97, 0}) || len(step.Sends) != min(n, 4) {
			t.Errorf("%d sends: left %v, sent %v", n, v, step.Sends)
		}
	}
}

func TestSeqsGoOnFromRunToRun(t *testing.T) {
	m := mustMake(t, program(0, codeOf(sends(1, 1, 1), sends(2, 1, 1), sends(3, 1, 1)), nil, sends(4, 1, 1)), 1, 1, 1)
	s, seq := state(0, 0), int64(0)
	for i, kind := range []int{0, 2, 1, 0, 2, 2, 0} {
		step := mustRun(t, m, s, event(int64(i), 1, kind, 0))
		for _, e := range step.Sends {
			if e.Seq != seq {
				t.Errorf("run %d: %+v, want the Seq %d", i, e, seq)
			}
			seq++
		}
		if step.State.Sent != seq {
			t.Errorf("run %d: Sent is %d, want %d", i, step.State.Sent, seq)
		}
		s = step.State
	}
}

func TestSendUpToMaxSeq(t *testing.T) {
	three := codeOf(sends(1, 1, 1), sends(2, 1, 1), sends(3, 1, 1))
	first, second := sent(11, 1, api.MaxSeq-1, 1, 1, 1), sent(11, 1, api.MaxSeq, 1, 1, 2)
	mustSend(t, three, 1, 1, 10, api.MaxSeq-1, first, second) // one of a greater Seq may not be
	mustSend(t, three, 1, 1, 10, api.MaxSeq+1)
	mustSend(t, three, 1, 1, 10, greatest)
}

package sequence_test

import (
	"math"
	"testing"

	"riffle/api"
	"riffle/sequence"
)

// P13.2

func mustNotHaveState(t *testing.T, s *sequence.Sequence, p int, want api.Errno) {
	t.Helper()
	if got, err := s.State(p); err != want || got.Vars != nil || got.Sent != 0 || got.Drawn != 0 {
		t.Fatalf("State(%d): %+v, %v, want %v", p, got, err, want)
	}
}

func TestLooksAtNone(t *testing.T) {
	for _, s := range []*sequence.Sequence{nil, new(sequence.Sequence)} {
		mustStand(t, s, -1, 0, 0)
		for _, p := range []int{math.MinInt, -1, 0, 1, 2, api.MaxProcs + 1, math.MaxInt} {
			mustNotHaveState(t, s, p, api.ErrNil)
		}
	}
}

func TestStateOfNoSuchProcess(t *testing.T) {
	for procs := 1; procs <= api.MaxProcs; procs++ {
		s := behind(t, ofIdle(procs), 1, outside(5, 0, procs, 0, 0))
		for _, p := range []int{math.MinInt, -procs, -1, 0, procs + 1, api.Outside + 1, math.MaxInt} {
			mustNotHaveState(t, s, p, api.ErrArg)
		}
		for p := 1; p <= procs; p++ {
			mustHaveState(t, s, p, 0, 0)
		}
	}
}

// Each step changes the state of its process alone.
func TestStatesAheadOfStepsAndBehindThem(t *testing.T) {
	s := of(t, relay(), outside(24, 0, 2, 1, math.MaxInt64))
	for _, x := range []struct {
		sum, sent1, count, sent3, drawn int64
	}{
		{0, 0, 5, 0, 0},
		{0, 0, 5, 0, 0},           // 4, at 2, of no kind of its program
		{0, 2, 6, 0, 0},           // 4, at 1
		{0, 2, 6, 0, 0},           // 4, at 3, where nothing is done
		{0, 2, 6, 2, 1},           // 9, at 3
		{7, 2, 6, 2, 1},           // 24, at 2, from 1
		{107, 2, 6, 2, 1},         // 24, at 2, from 3
		{107, 2, 6, 2, 1},         // 24, at 2, from 3, that is told
		{106 - 1<<63, 2, 6, 2, 1}, // 24, at 2, from outside
		{106 - 1<<63, 4, 7, 2, 1}, // 30, at 1
		{106 - 1<<63, 4, 7, 4, 2}, // 35, at 3
		{113 - 1<<63, 4, 7, 4, 2}, // 50, at 2, from 1
		{213 - 1<<63, 4, 7, 4, 2}, // 50, at 2, from 3
		{213 - 1<<63, 4, 7, 4, 2}, // 50, at 2, from 3, that is told
	} {
		mustHaveState(t, s, 1, x.sent1, 0, x.count)
		mustHaveState(t, s, 2, 0, 0, x.sum, -1)
		mustHaveState(t, s, 3, x.sent3, x.drawn)
		s.Step()
	}
	mustStand(t, s, 50, 13, 0)
}

func TestStateIsNotChangedByPut(t *testing.T) {
	s := behind(t, relay(), 6)
	was := look(s).states
	mustPut(t, s, outside(90, 0, 2, 1, 7))
	mustHaveState(t, s, 2, was[1].Sent, was[1].Drawn, was[1].Vars...)
}

func TestStateIsTheCallersOwn(t *testing.T) {
	s := behind(t, relay(), 6)
	was, c := look(s), s.Copy()
	for range 2 {
		for p := 1; p <= 3; p++ {
			state, err := s.State(p)
			if err != api.OK {
				t.Fatal(err)
			}
			for i := range state.Vars {
				state.Vars[i] = 1000
			}
			_ = append(state.Vars, 1000)
			state.Sent, state.Drawn = 9, 9
		}
		mustLook(t, s, was)
		mustBeSame(t, s, c, true)
	}
}

func TestAStateThatWasToldStays(t *testing.T) {
	s := mustMake(t, ticker())
	state, _ := s.State(1)
	goOn(t, s, 3)
	behind, _ := s.State(1)
	goOn(t, s, 3)
	if state.Vars[0] != 0 || state.Sent != 0 || behind.Vars[0] != 3 || behind.Sent != 3 {
		t.Errorf("what was told became %+v, %+v", state, behind)
	}
}

func TestFloorDoneAndWaitsOfEachStepAndPut(t *testing.T) {
	m := ofIdle(2, first(0, 0, 1, 0, 0), first(1, 8, 2, 0, 0))
	m.Procs[0] = proc(nil, codeOf(sends(1, 0, 3, 2), sends(1, 0, 8, 2)), nil)
	s := mustMake(t, m)
	mustStand(t, s, -1, 0, 2)
	mustPut(t, s, outside(8, 4, 1, 0, 0))
	mustStand(t, s, -1, 0, 3)
	goOn(t, s, 1)
	mustStand(t, s, 0, 1, 4)
	mustPut(t, s, outside(8, 5, 1, 1, 0))
	mustStand(t, s, 0, 1, 5)
	mustPut(t, s, outside(1, 6, 1, 1, 0))
	mustStand(t, s, 0, 1, 6)
	for i, x := range [][2]int64{{1, 5}, {3, 4}, {8, 3}, {8, 2}, {8, 3}, {8, 2}, {11, 1}, {16, 0}} {
		goOn(t, s, 1)
		mustStand(t, s, x[0], i+2, int(x[1]))
	}
	mustNotStep(t, s, api.ErrNone)
	mustPut(t, s, outside(17, 7, 1, 1, 0))
	mustStand(t, s, 16, 9, 1)
	goOn(t, s, 1)
	mustStand(t, s, 17, 10, 0)
}

// More may wait, and be done, than other layers have room for.
func TestManyWaitAndAreDone(t *testing.T) {
	m := ofIdle(1, first(0, 0, 1, 0, 0))
	m.Procs[0] = proc(nil, codeOf(sends(0, 0, 1, 1), sends(0, 0, api.MaxDelay, 1), sends(0, 0, api.MaxDelay, 1)))
	s := mustMake(t, m)
	for i := range 3 * api.MaxEvents {
		mustStand(t, s, int64(i)-1, i, 1+2*i)
		goOn(t, s, 1)
	}
}

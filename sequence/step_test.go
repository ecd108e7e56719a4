package sequence_test

import (
	"slices"
	"testing"

	"riffle/api"
	"riffle/sequence"
)

// P13.1: Next, Step

func TestNextAndStepOfNone(t *testing.T) {
	for _, s := range []*sequence.Sequence{nil, new(sequence.Sequence)} {
		mustHaveNext(t, s)
		mustNotStep(t, s, api.ErrNil)
	}
}

func TestNextAndStepWhereNothingWaits(t *testing.T) {
	s := mustMake(t, ofIdle(2))
	mustHaveNext(t, s)
	mustNotStep(t, s, api.ErrNone)
	e := outside(5, 0, 2, 0, 0)
	mustPut(t, s, e)
	mustHaveNext(t, s, e)
	mustStep(t, s, e)
	mustHaveNext(t, s)
	mustNotStep(t, s, api.ErrNone)
	mustNotStep(t, s, api.ErrNone)
}

func TestNextDoesNothing(t *testing.T) {
	s := of(t, relay(), outside(2, 0, 1, 0, 0))
	was := look(s)
	for range 5 {
		mustHaveNext(t, s, outside(2, 0, 1, 0, 0))
	}
	mustLook(t, s, was)
}

func TestNextIsTheLeastOfWhatIsPut(t *testing.T) {
	s := mustMake(t, ofIdle(1))
	least := outside(9, 9, 1, 0, 0)
	for _, e := range []api.Event{least, outside(9, 8, 1, 0, 0), outside(9, 10, 1, 0, 0), outside(8, 11, 1, 0, 0), outside(10, 0, 1, 0, 0), outside(0, 12, 1, 0, 0)} {
		mustPut(t, s, e)
		if e.Time < least.Time || e.Time == least.Time && e.Seq < least.Seq {
			least = e
		}
		mustHaveNext(t, s, least)
	}
}

// Events of one time are done by their origins, then by their Seqs: first events, those of processes, those from outside.
func TestStepsOfOneTime(t *testing.T) {
	m := ofIdle(3, first(0, 1, 3, 0, 0), first(1, 1, 2, 0, 0), first(2, 9, 2, 0, 0), first(3, 9, 1, 0, 0), first(4, 10, 1, 0, 0))
	for i, p := range []api.Proc{idle(), proc(nil, codeOf(sends(1, 1, 8, 1), sends(1, 2, 8, 3)), nil), proc(nil, sends(1, 3, 8, 1), nil)} {
		m.Procs[i] = p
	}
	m.First[2].Kind = 1
	s := of(t, m, outside(9, 2, 3, 1, 0), outside(8, 5, 1, 0, 0), outside(9, 1, 3, 1, 0))
	for _, e := range []api.Event{
		m.First[0], m.First[1], outside(8, 5, 1, 0, 0),
		m.First[2], m.First[3], sent(9, 2, 0, 1, 1, 1), sent(9, 2, 1, 3, 1, 2), sent(9, 3, 0, 1, 1, 3), outside(9, 1, 3, 1, 0), outside(9, 2, 3, 1, 0),
		m.First[4],
	} {
		mustHaveNext(t, s, e)
		mustStep(t, s, e)
	}
	mustHaveNext(t, s)
}

func TestSeqsOfOneOriginAreNumbers(t *testing.T) {
	s := mustMake(t, ofIdle(1))
	l := []api.Event{outside(5, 2, 1, 0, 0), outside(5, 9, 1, 0, 0), outside(5, 10, 1, 0, 0), outside(5, 1<<32, 1, 0, 0), outside(5, api.MaxSeq, 1, 0, 0)}
	for _, i := range []int{3, 1, 4, 0, 2} {
		mustPut(t, s, l[i])
	}
	for _, e := range l {
		mustStep(t, s, e)
	}
}

func TestStepOfWhatAStepSends(t *testing.T) {
	m := ofIdle(2)
	m.Procs[0] = proc([]int64{0}, codeOf(counts(), sends(1, 6, 10, 2), sends(1, 5, 1, 1)), tellsData())
	m.Procs[1] = proc(nil, nil, tellsData())
	s := of(t, m, outside(100, 0, 1, 0, 0), outside(105, 1, 2, 1, 4))
	mustStep(t, s, outside(100, 0, 1, 0, 0), 0)
	mustHaveNext(t, s, sent(101, 1, 1, 1, 1, 5)) // it is the next one, though it was sent last
	mustStand(t, s, 100, 1, 3)
	mustStep(t, s, sent(101, 1, 1, 1, 1, 5), 5)
	mustStep(t, s, outside(105, 1, 2, 1, 4), 4) // the other one stands behind
	mustStep(t, s, sent(110, 1, 0, 2, 1, 6), 6)
	mustStand(t, s, 110, 4, 0)
}

func TestStepOfAllThatMayBeSentAndTold(t *testing.T) {
	var code []api.Instr
	for i := range int64(api.MaxTells + 1) {
		code = append(code, op(api.OpPush, 10*i), op(api.OpTell))
	}
	for i := range int64(api.MaxSends + 1) {
		code = append(code, sends(1, i, 40-i, 1)...)
	}
	m := api.Model{Procs: []api.Proc{proc(nil, code, nil)}, First: []api.Event{first(0, 2, 1, 0, 0)}}
	s := mustMake(t, m)
	mustStep(t, s, m.First[0], 0, 10, 20, 30)
	mustStand(t, s, 2, 1, api.MaxSends)
	for i := int64(api.MaxSends - 1); i >= 0; i-- {
		mustStep(t, s, sent(42-i, 1, i, 1, 1, i))
	}
	mustNotStep(t, s, api.ErrNone)
}

func TestStepsOfTheRelay(t *testing.T) {
	m := relay()
	s := mustMake(t, m)
	mustStep(t, s, m.First[1])
	mustStep(t, s, m.First[2], 5, 2)
	mustStep(t, s, m.First[3])
	mustStep(t, s, sent(9, 1, 1, 3, 0, 8), chance(200, 0))
	mustStep(t, s, sent(24, 1, 0, 2, 1, 7))
	mustStep(t, s, sent(24, 3, 0, 2, 1, 100))
	mustStep(t, s, sent(24, 3, 1, 2, 0, 9), 9)
	mustStep(t, s, m.First[0], 6, -3)
	mustStep(t, s, sent(35, 1, 3, 3, 0, 8), chance(200, 1))
	mustStep(t, s, sent(50, 1, 2, 2, 1, 7))
	mustStep(t, s, sent(50, 3, 2, 2, 1, 100))
	mustStep(t, s, sent(50, 3, 3, 2, 0, 9), 9)
	mustStand(t, s, 50, 12, 0)
	mustNotStep(t, s, api.ErrNone)
}

// chance is the number by chance that is drawn of a seed behind so many others, as chapter 8 tells it.
func chance(seed, drawn uint64) int64 {
	x := seed + (drawn+1)*0x9E3779B97F4A7C15
	x ^= x >> 30
	x *= 0xBF58476D1CE4E5B9
	x ^= x >> 27
	x *= 0x94D049BB133111EB
	x ^= x >> 31
	return int64(x >> 1)
}

// Of a kind that its process's program does not have, an event is done all the same.
func TestStepOfAKindThatTheProgramDoesNotHave(t *testing.T) {
	e := outside(12, 0, 1, api.MaxKinds-1, 0)
	s := behind(t, ticker(), 2, e)
	mustStep(t, s, e)
	mustStand(t, s, 12, 3, 1)
	mustHaveState(t, s, 1, 2, 0, 2)
	mustStep(t, s, sent(20, 1, 1, 1, 0, 0), 2)
}

func TestStepAtTheEndOfTime(t *testing.T) {
	m := ticker()
	m.First[0].Time = api.MaxTime - 10
	s := mustMake(t, m)
	mustStep(t, s, m.First[0], 0)
	mustStep(t, s, sent(api.MaxTime, 1, 0, 1, 0, 0), 1)
	mustStand(t, s, api.MaxTime, 2, 0) // beyond MaxTime nothing is sent
	mustHaveState(t, s, 1, 1, 0, 2)
	mustNotStep(t, s, api.ErrNone)
}

func TestStepAnswersTheCallersOwn(t *testing.T) {
	s := behind(t, relay(), 1)
	c := s.Copy()
	_, l, _ := s.Step()
	kept := slices.Clone(l)
	was := look(s)
	clear(l[:cap(l)])
	mustLook(t, s, was)
	goOn(t, c, 1)
	mustBeSame(t, s, c, true)
	mustLook(t, c, was)

	_, l, _ = behind(t, relay(), 1).Step()
	again := append(l[:0], api.Record{Value: 4}, api.Record{Value: 5}, api.Record{Value: 6})
	if _, l, _ = behind(t, relay(), 1).Step(); !slices.Equal(l, kept) || len(again) != 3 {
		t.Errorf("told: %+v, want %+v", l, kept)
	}
}

package sequence_test

import (
	"math"
	"testing"

	"riffle/api"
	"riffle/sequence"
)

// P13.1, P0.3: Put

// argFaults each change one thing of an event from outside, of three processes, so that it is refused by ErrArg.
func argFaults() map[string]func(e *api.Event) {
	return map[string]func(e *api.Event){
		"a time below 0":       func(e *api.Event) { e.Time = -1 },
		"the least time":       func(e *api.Event) { e.Time = math.MinInt64 },
		"a time too great":     func(e *api.Event) { e.Time = api.MaxTime + 1 },
		"the greatest time":    func(e *api.Event) { e.Time = math.MaxInt64 },
		"an origin too great":  func(e *api.Event) { e.Origin = api.Outside + 1 },
		"an origin below 0":    func(e *api.Event) { e.Origin = -1 },
		"a first one's origin": func(e *api.Event) { e.Origin = 0 },
		"its own origin":       func(e *api.Event) { e.Origin = e.To },
		"the last origin":      func(e *api.Event) { e.Origin = api.MaxProcs },
		"a Seq below 0":        func(e *api.Event) { e.Seq = -1 },
		"a Seq too great":      func(e *api.Event) { e.Seq = api.MaxSeq + 1 },
		"the least Seq":        func(e *api.Event) { e.Seq = math.MinInt64 },
		"no process":           func(e *api.Event) { e.To = 0 },
		"a process too many":   func(e *api.Event) { e.To = 4 },
		"a process of others":  func(e *api.Event) { e.To = api.MaxProcs },
		"a process below 0":    func(e *api.Event) { e.To = -1 },
		"a kind below 0":       func(e *api.Event) { e.Kind = -1 },
		"a kind too great":     func(e *api.Event) { e.Kind = api.MaxKinds },
	}
}

func TestPutOfNone(t *testing.T) {
	for _, s := range []*sequence.Sequence{nil, new(sequence.Sequence)} {
		for _, e := range []api.Event{{}, outside(5, 0, 1, 0, 0), outside(-1, 0, 1, 0, 0), first(0, 5, 1, 0, 0)} {
			for range 2 {
				mustNotPut(t, s, e, api.ErrNil)
			}
		}
		mustStand(t, s, -1, 0, 0)
	}
}

func TestPutOfWhatMayNotBe(t *testing.T) {
	for name, change := range argFaults() {
		t.Run(name, func(t *testing.T) {
			e := outside(50, 1, 2, 0, 0)
			change(&e)
			mustNotPut(t, mustMake(t, relay()), e, api.ErrArg)
			mustNotPut(t, behind(t, relay(), 5), e, api.ErrArg)

			// Its Seq was put in already, and it waits, or is done; and its time is not above the floor.
			seq := min(max(e.Seq, 0), api.MaxSeq)
			mustNotPut(t, of(t, relay(), outside(50, seq, 2, 0, 0)), e, api.ErrArg)
			s := behind(t, ofIdle(3), 1, outside(50, seq, 2, 0, 0))
			mustNotPut(t, s, e, api.ErrArg)
			e = outside(49, 1, 2, 0, 0)
			change(&e)
			mustNotPut(t, s, e, api.ErrArg)
		})
	}
}

func TestPutOfAProcessByHowManyThereAre(t *testing.T) {
	for procs := 1; procs <= api.MaxProcs; procs++ {
		s := mustMake(t, ofIdle(procs))
		for to := -1; to <= api.MaxProcs+1; to++ {
			e := outside(5, int64(to+1), to, 0, 0)
			if to < 1 || to > procs {
				mustNotPut(t, s, e, api.ErrArg)
			} else {
				mustPut(t, s, e)
			}
		}
		mustStand(t, s, -1, 0, procs)
	}
}

func TestPutAtTheEdges(t *testing.T) {
	for _, e := range []api.Event{
		outside(0, 0, 1, 0, 0), outside(api.MaxTime, 0, 1, 0, 0), outside(5, api.MaxSeq, 1, 0, 0), outside(5, 0, 3, 0, 0),
		outside(5, 0, 1, api.MaxKinds-1, 0), outside(5, 0, 1, 0, math.MinInt64), outside(5, 0, 1, 0, math.MaxInt64),
	} {
		s := of(t, ofIdle(3), e)
		mustStand(t, s, -1, 0, 1)
		mustNotPut(t, s, e, api.ErrTwice)
		mustStep(t, s, e)
		mustStand(t, s, e.Time, 1, 0)
		mustNotPut(t, s, e, api.ErrTwice)
	}
}

func TestPutTwiceWhereItWaits(t *testing.T) {
	e := outside(50, 7, 2, 0, 0)
	s := of(t, relay(), outside(60, 8, 1, 0, 0), e, outside(40, 6, 1, 0, 0))
	for _, x := range []api.Event{e, outside(51, 7, 2, 0, 0), outside(50, 7, 1, 0, 0), outside(50, 7, 2, 1, 0), outside(50, 7, 2, 0, 1), outside(0, 7, 3, 5, -1)} {
		mustNotPut(t, s, x, api.ErrTwice)
	}
	goOn(t, s, 3)
	mustStand(t, s, 4, 3, 6)
	for _, time := range []int64{0, 3, 4, 5, api.MaxTime} {
		for _, seq := range []int64{6, 7, 8} {
			mustNotPut(t, s, outside(time, seq, 1, 0, 0), api.ErrTwice)
		}
	}
}

func TestPutTwiceWhereItIsDone(t *testing.T) {
	a, b := outside(50, 7, 2, 0, 0), outside(20, 0, 1, 0, 0)
	s := of(t, ofIdle(2), a, b)
	mustStep(t, s, b)
	for _, time := range []int64{0, 19, 20, 21, 50, 51} {
		mustNotPut(t, s, outside(time, 0, 1, 0, 0), api.ErrTwice)
	}
	mustStep(t, s, a)
	for _, time := range []int64{0, 50, 51, api.MaxTime} {
		mustNotPut(t, s, outside(time, 0, 1, 0, 0), api.ErrTwice)
		mustNotPut(t, s, outside(time, 7, 2, 0, 0), api.ErrTwice)
	}
	c := s.Copy()
	mustNotPut(t, c, outside(60, 7, 2, 0, 0), api.ErrTwice)
	mustPut(t, c, outside(60, 1, 2, 0, 0))
}

func TestPutNotAboveTheFloor(t *testing.T) {
	s := mustMake(t, ticker())
	mustPut(t, s, outside(0, 0, 1, 7, 0)) // the floor is -1
	for range 20 {
		goOn(t, s, 1)
		c, floor := s.Copy(), s.Floor()
		for _, time := range []int64{0, floor / 2, floor - 1, floor} {
			if time >= 0 {
				mustNotPut(t, c, outside(time, 1, 1, 7, 0), api.ErrTime)
			}
		}
		mustPut(t, c, outside(floor+1, 1, 1, 7, 0))
	}
	mustStand(t, s, 180, 20, 1)
}

func TestPutBehindTheLastTime(t *testing.T) {
	s := behind(t, ofIdle(1), 1, outside(api.MaxTime, 0, 1, 0, 0))
	for _, time := range []int64{0, api.MaxTime - 1, api.MaxTime} {
		mustNotPut(t, s, outside(time, 1, 1, 0, 0), api.ErrTime)
	}
	mustNotPut(t, s, outside(api.MaxTime+1, 1, 1, 0, 0), api.ErrArg)
	mustNotPut(t, s, outside(api.MaxTime, 0, 1, 0, 0), api.ErrTwice)
}

func TestPutAsInTheDocumentsExample(t *testing.T) {
	s := behind(t, ofIdle(1, first(0, 7, 1, 0, 0)), 1)
	mustNotPut(t, s, outside(5, 0, 1, 0, 0), api.ErrTime)
	mustPut(t, s, outside(8, 0, 1, 0, 0))
	mustStep(t, s, outside(8, 0, 1, 0, 0))
}

// Seqs of other origins are none of those that were put in.
func TestPutOfASeqOfOthers(t *testing.T) {
	s := behind(t, ticker(), 4)
	for seq := range int64(5) {
		mustPut(t, s, outside(40, seq, 1, 0, seq))
	}
	mustStand(t, s, 30, 4, 6)
	mustStep(t, s, sent(40, 1, 3, 1, 0, 0), 4)
	for seq := range int64(5) {
		mustStep(t, s, outside(40, seq, 1, 0, seq), 5+seq)
	}
}

func TestARefusedSeqIsNotPutIn(t *testing.T) {
	s := behind(t, ofIdle(2), 1, outside(10, 9, 1, 0, 0))
	mustNotPut(t, s, outside(10, 0, 1, 0, 0), api.ErrTime)
	mustNotPut(t, s, outside(20, 0, 3, 0, 0), api.ErrArg)
	mustNotPut(t, s, outside(20, 9, 1, 0, 0), api.ErrTwice)
	mustPut(t, s, outside(20, 0, 1, 0, 0))
	mustNotPut(t, s, outside(20, 0, 1, 0, 0), api.ErrTwice)
	mustStand(t, s, 10, 1, 1)
}

func TestPutKeepsNothingOfTheCallers(t *testing.T) {
	e := outside(6, 0, 1, 0, 3)
	s := of(t, ofIdle(2), e)
	e.Time, e.Seq, e.To, e.Data = 5, 1, 2, 4
	mustHaveNext(t, s, outside(6, 0, 1, 0, 3))
	mustPut(t, s, e)
	mustStep(t, s, e)
	mustStep(t, s, outside(6, 0, 1, 0, 3))
}

func TestPutOfVeryMany(t *testing.T) {
	const many = 4000
	s := mustMake(t, ofIdle(1))
	for i := range int64(many) {
		mustPut(t, s, outside(i*2741%many/2, i, 1, 0, i))
	}
	mustStand(t, s, -1, 0, many)
	var last api.Key
	for i := range many {
		e, _, err := s.Step()
		if err != api.OK || e.Time != int64(i/2) || i%2 == 1 && e.Seq <= last.Seq {
			t.Fatalf("step %d: %+v, %v, behind %+v", i, e, err, last)
		}
		last = e.Key
	}
	mustNotStep(t, s, api.ErrNone)
}

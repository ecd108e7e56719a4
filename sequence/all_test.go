package sequence_test

import (
	"slices"
	"testing"

	"riffle/api"
	"riffle/sequence"
)

// P13.3: All

// rest are all that is done from here on, by the steps of a copy.
func rest(t *testing.T, s *sequence.Sequence) []done {
	t.Helper()
	var l []done
	for c := s.Copy(); c.Waits() > 0; {
		e, tells, err := c.Step()
		if err != api.OK {
			t.Fatal(err)
		}
		l = append(l, done{e, tells})
	}
	return l
}

// tick is what the ticker does behind so many steps.
func tick(n int64) done {
	e := first(0, 0, 1, 0, 0)
	if n > 0 {
		e = sent(10*n, 1, n-1, 1, 0, 0)
	}
	return done{e, told(e, n)}
}

func ticks(from, n int64) []done {
	var l []done
	for i := range n {
		l = append(l, tick(from+i))
	}
	return l
}

func TestAllOfNone(t *testing.T) {
	for _, s := range []*sequence.Sequence{nil, new(sequence.Sequence)} {
		all := s.All()
		if all == nil {
			t.Fatal("All is nil")
		}
		mustBegin(t, all, true)
		mustBegin(t, all, true)
	}
}

func TestAllFromEachStepOn(t *testing.T) {
	s := of(t, relay(), outside(24, 3, 2, 1, -2), outside(70, 0, 3, 0, 0))
	whole := rest(t, s)
	if len(whole) != 16 {
		t.Fatalf("%d events are done: %+v", len(whole), whole)
	}
	for i := range whole {
		was := look(s)
		mustBegin(t, s.All(), true, whole[i:]...)
		mustLook(t, s, was)
		goOn(t, s, 1)
	}
	mustStand(t, s, 85, 16, 0)
	mustBegin(t, s.All(), true)
}

func TestAllTellsWhatIsToldAtEach(t *testing.T) {
	m := ofIdle(2, first(0, 5, 2, 0, 4))
	m.Procs[0] = proc([]int64{7}, nil, codeOf(counts(), tellsData()))
	m.Procs[1] = proc(nil, codeOf(tellsData(), sends(1, -9, 2, 1), sends(0, 3, 3, 1)), nil)
	a, b := sent(7, 2, 0, 1, 1, -9), sent(8, 2, 1, 1, 0, 3)
	mustBegin(t, mustMake(t, m).All(), true, done{m.First[0], told(m.First[0], 4)}, done{a, told(a, 7, -9)}, done{b, nil})
}

func TestAllWhereNothingWaits(t *testing.T) {
	s := mustMake(t, ofIdle(2))
	mustBegin(t, s.All(), true)
	mustPut(t, s, outside(4, 0, 1, 0, 0))
	mustBegin(t, s.All(), true, done{event: outside(4, 0, 1, 0, 0)})
	goOn(t, s, 1)
	mustBegin(t, s.All(), true)
	mustStand(t, s, 4, 1, 0)
}

func TestAllIsLeft(t *testing.T) {
	s := behind(t, relay(), 2, outside(70, 0, 3, 0, 0))
	was, whole := look(s), rest(t, s)
	all := s.All()
	for n := range len(whole) + 1 {
		if got := begins(all, n); !slices.EqualFunc(got, whole[:n], sameDone) {
			t.Fatalf("the first %d: %+v, want %+v", n, got, whole[:n])
		}
		mustLook(t, s, was)
	}
}

func TestAllIsNotAskedAgainWhenItIsLeft(t *testing.T) {
	for _, m := range []api.Model{relay(), ticker()} {
		for n := 1; n < 5; n++ {
			asked := 0
			mustMake(t, m).All()(func(api.Event, []api.Record) bool {
				asked++
				return asked < n
			})
			if asked != n {
				t.Errorf("asked %d times, want %d", asked, n)
			}
		}
	}
}

func TestAllIsGoneThroughAgain(t *testing.T) {
	s := behind(t, relay(), 3)
	whole := rest(t, s)
	all := s.All()
	for range 3 {
		mustBegin(t, all, true, whole...)
		mustBegin(t, all, false, whole[:2]...)
	}
}

func TestAllWithinAll(t *testing.T) {
	all := behind(t, ticker(), 2).All()
	n := int64(0)
	for e, l := range all {
		if n++; !sameDone(done{e, l}, tick(1+n)) {
			t.Fatalf("%+v, %+v, want %+v", e, l, tick(1+n))
		}
		mustBegin(t, all, false, ticks(2, 7)...)
		if n == 20 {
			break
		}
	}
}

// It goes over what would have been done when it was called, whatever is done and put in later.
func TestAllBehindLaterStepsAndPuts(t *testing.T) {
	s := of(t, relay(), outside(70, 0, 3, 0, 0))
	whole := rest(t, s)
	all := s.All()
	for s.Waits() > 0 {
		goOn(t, s, 1)
		mustBegin(t, all, true, whole...)
	}
	mustPut(t, s, outside(s.Floor()+1, 1, 1, 0, 0), outside(s.Floor()+2, 2, 1, 0, 0))
	mustBegin(t, all, true, whole...)
	goOn(t, s, 2)
	mustBegin(t, all, true, whole...)

	s = mustMake(t, ofIdle(1))
	all = s.All()
	mustPut(t, s, outside(0, 0, 1, 0, 0))
	mustBegin(t, all, true)
	all = s.All()
	goOn(t, s, 1)
	mustBegin(t, all, true, done{event: outside(0, 0, 1, 0, 0)})
}

func TestAllBehindPutsThatComeAheadOfIt(t *testing.T) {
	s := behind(t, ticker(), 3)
	all := s.All()
	mustPut(t, s, outside(21, 0, 1, 7, 0), outside(25, 1, 1, 0, 0), outside(30, 2, 1, 7, 0))
	mustBegin(t, all, false, ticks(3, 30)...)
	mustStep(t, s, outside(21, 0, 1, 7, 0))
}

func TestStepsAndPutsWhileAllIsGoneThrough(t *testing.T) {
	s := mustMake(t, ticker())
	n := int64(0)
	for e, l := range s.All() {
		if !sameDone(done{e, l}, tick(n)) {
			t.Fatalf("%+v, %+v, want %+v", e, l, tick(n))
		}
		if n++; n == 30 {
			break
		}
		mustPut(t, s, outside(s.Floor()+1, n, 1, 0, n))
		goOn(t, s, 3)
	}
	if s.Done() != 3*29 || s.Waits() != 30 {
		t.Errorf("Done %d, Waits %d, want 87, 30", s.Done(), s.Waits())
	}
}

func TestAllOfAModelThatNeverEnds(t *testing.T) {
	s := mustMake(t, ticker())
	mustBegin(t, s.All(), false, ticks(0, 3000)...)
	mustStand(t, s, -1, 0, 1)
	goOn(t, s, 5)
	mustBegin(t, s.All(), false, ticks(5, 3000)...)
	mustStand(t, s, 40, 5, 1)
}

func TestNothingIsDoneByAll(t *testing.T) {
	s := behind(t, relay(), 4, outside(70, 0, 3, 0, 0))
	c, was := s.Copy(), look(s)
	all := s.All()
	mustBeSame(t, s, c, true)
	for n := range 20 {
		begins(all, n)
		mustBeSame(t, s, c, true)
		mustLook(t, s, was)
	}
	for range rest(t, c) {
		goOn(t, s, 1)
		goOn(t, c, 1)
		mustBeSame(t, s, c, true)
	}
}

func TestAllAnswersTheCallersOwn(t *testing.T) {
	s := behind(t, relay(), 1)
	whole, was := rest(t, s), look(s)
	all := s.All()
	for range 2 {
		i := 0
		for e, l := range all {
			if !sameDone(done{e, l}, whole[i]) {
				t.Fatalf("%+v, %+v, want %+v", e, l, whole[i])
			}
			clear(l[:cap(l)])
			i++
		}
		mustLook(t, s, was)
	}
}

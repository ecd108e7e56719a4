package sequence_test

import (
	"testing"

	"riffle/api"
	"riffle/sequence"
)

// P13.3: Copy

func TestCopiesAreTheSame(t *testing.T) {
	s := of(t, relay(), outside(24, 3, 2, 1, -2), outside(70, 0, 3, 0, 0))
	for s.Waits() > 0 {
		c := s.Copy()
		if c == s {
			t.Fatal("a copy is the sequence itself")
		}
		mustLook(t, c, look(s))
		mustBeSame(t, s, c, true)
		mustBeSame(t, s, c.Copy(), true)
		for _, seq := range []int64{0, 3} {
			mustNotPut(t, c, outside(100, seq, 1, 0, 0), api.ErrTwice)
		}
		goOn(t, s, 1)
		mustBeSame(t, s, c, false)
		goOn(t, c, 1)
		mustBeSame(t, s, c, true)
	}
}

func TestCopyOfNone(t *testing.T) {
	for _, s := range []*sequence.Sequence{nil, new(sequence.Sequence)} {
		c := s.Copy()
		mustBeSame(t, s, c, true)
		mustStand(t, c, -1, 0, 0)
		mustHaveNext(t, c)
		mustNotStep(t, c, api.ErrNil)
		mustNotPut(t, c, outside(5, 0, 1, 0, 0), api.ErrNil)
	}
	if c := (*sequence.Sequence)(nil).Copy(); c != nil {
		t.Errorf("a copy of nil is %+v", c)
	}
}

func TestCopiesGoOnApart(t *testing.T) {
	for steps := range 8 {
		for range 2 {
			s := behind(t, relay(), steps, outside(70, 0, 3, 0, 0))
			c := s.Copy()
			was := look(s)
			mustPut(t, c, outside(60, 1, 2, 1, 9))
			mustLook(t, s, was)
			goOn(t, c, 5)
			mustLook(t, s, was)

			is := look(c)
			mustPut(t, s, outside(65, 1, 1, 0, 0), outside(66, 2, 1, 0, 0)) // the Seq that was put into the copy too
			mustLook(t, c, is)
			goOn(t, s, 6)
			mustLook(t, c, is)
			mustPut(t, c, outside(65, 2, 1, 0, 0))
			mustBeSame(t, s, c, false)
		}
	}
}

// Did both keep what waits in one list, each would put over what the other one did.
func TestCopiesOfManyThatWaitGoOnApart(t *testing.T) {
	for n := range int64(20) {
		s := mustMake(t, ofIdle(2))
		for i := range n {
			mustPut(t, s, outside(10*i+10, i, 1, 0, 0))
		}
		c := s.Copy()
		d := c.Copy()
		mustPut(t, s, outside(500, n, 1, 0, 1))
		mustPut(t, c, outside(500, n, 1, 0, 2))
		mustPut(t, d, outside(5, n, 1, 0, 3))
		mustStep(t, d, outside(5, n, 1, 0, 3))
		for i := range n {
			for _, x := range []*sequence.Sequence{s, c, d} {
				mustStep(t, x, outside(10*i+10, i, 1, 0, 0))
			}
		}
		mustStep(t, s, outside(500, n, 1, 0, 1))
		mustStep(t, c, outside(500, n, 1, 0, 2))
		mustNotStep(t, d, api.ErrNone)
	}
}

// P13.3: Same

func TestSameOfNone(t *testing.T) {
	zero := new(sequence.Sequence)
	mustBeSame(t, nil, nil, true)
	mustBeSame(t, nil, zero, true)
	mustBeSame(t, zero, zero, true)
	mustBeSame(t, zero, new(sequence.Sequence), true)
	for _, s := range []*sequence.Sequence{mustMake(t, ofIdle(1)), mustMake(t, ticker()), behind(t, relay(), 3)} {
		mustBeSame(t, nil, s, false)
		mustBeSame(t, zero, s, false)
		mustBeSame(t, s, s, true)
	}
}

func TestSameOfOtherModels(t *testing.T) {
	changes := modelChanges()
	delete(changes, "the first events") // such a model may not be, nor such a one:
	delete(changes, "a program")
	changes["a process more"] = func(m *api.Model) { m.Procs = append(m.Procs, idle()) }
	changes["a first event more"] = func(m *api.Model) { m.First = append(m.First, first(4, 1000, 1, 0, 0)) }
	changes["a kind more"] = func(m *api.Model) { m.Procs[2].Program.Kinds = append(m.Procs[2].Program.Kinds, nil) }
	l := []*sequence.Sequence{mustMake(t, relay()), mustMake(t, ticker()), mustMake(t, ofIdle(1)), mustMake(t, ofIdle(2))}
	for _, change := range changes {
		m := relay()
		change(&m)
		l = append(l, mustMake(t, m))
	}
	for i, a := range l {
		for j, b := range l {
			mustBeSame(t, a, b, i == j)
		}
	}
}

// Models are told apart also where all that is done, and all that waits, is alike.
func TestSameOfOtherModelsThatDoAlike(t *testing.T) {
	var l []*sequence.Sequence
	for _, change := range []func(m *api.Model){
		func(*api.Model) {},
		func(m *api.Model) { m.Procs[0].Seed = 1 },
		func(m *api.Model) { m.Procs[1].Seed = -1 },
		func(m *api.Model) { m.Procs[0].Program.Kinds[0] = []api.Instr{op(api.OpEnd)} },
		func(m *api.Model) { m.Procs[1].Program.Kinds = [][]api.Instr{nil, nil} },
		func(m *api.Model) { m.First[0].Data = 1 },
		func(m *api.Model) { m.First[0].Kind = 1 },
		func(m *api.Model) { m.First[0].To = 2 },
		func(m *api.Model) { m.First[0].Time = 2 },
	} {
		m := api.Model{Procs: []api.Proc{proc(nil, nil), proc(nil, nil)}, First: []api.Event{first(0, 3, 1, 0, 0), first(1, 4, 1, 0, 0)}}
		change(&m)
		s := behind(t, m, 2)
		mustStand(t, s, 4, 2, 0)
		l = append(l, s)
	}
	for i, a := range l {
		for j, b := range l {
			mustBeSame(t, a, b, i == j)
		}
	}
}

// twins has two processes that do, at each kind, another thing to their state; they tell nothing.
func twins() api.Model {
	p := proc([]int64{0, 0},
		nil,
		[]api.Instr{op(api.OpData), op(api.OpStore, 0)},
		[]api.Instr{op(api.OpData), op(api.OpStore, 1)},
		[]api.Instr{op(api.OpRand)},
		[]api.Instr{op(api.OpSelf), op(api.OpSend, 0)}, // an event for the first process, one later
	)
	return api.Model{Procs: []api.Proc{p, p}}
}

func TestSameTellsTheStates(t *testing.T) {
	for kind := 1; kind < 4; kind++ {
		a := behind(t, twins(), 1, outside(5, 0, 1, kind, 3))
		b := behind(t, twins(), 1, outside(5, 0, 2, kind, 3))
		mustStand(t, a, 5, 1, 0)
		mustStand(t, b, 5, 1, 0)
		mustBeSame(t, a, b, false)
	}
	for kind := 1; kind < 3; kind++ {
		mustBeSame(t, behind(t, twins(), 1, outside(5, 0, 1, kind, 3)), behind(t, twins(), 1, outside(5, 0, 1, kind, 4)), false)
	}
	mustBeSame(t, behind(t, twins(), 1, outside(5, 0, 1, 1, 3)), behind(t, twins(), 1, outside(5, 0, 1, 2, 3)), false)
	mustBeSame(t, behind(t, twins(), 1, outside(5, 0, 1, 3, 3)), behind(t, twins(), 1, outside(5, 0, 1, 0, 3)), false)

	a, b := behind(t, twins(), 2, outside(5, 0, 1, 4, 0)), behind(t, twins(), 2, outside(5, 0, 2, 4, 0))
	mustHaveState(t, a, 1, 1, 0, 0, 0)
	mustHaveState(t, b, 2, 1, 0, 0, 0)
	mustStand(t, a, 6, 2, 0)
	mustStand(t, b, 6, 2, 0)
	mustBeSame(t, a, b, false)
}

func TestSameTellsWhatWaits(t *testing.T) {
	x := outside(5, 0, 1, 0, 0)
	l := []*sequence.Sequence{of(t, ofIdle(2)), of(t, ofIdle(2), x, outside(8, 1, 1, 0, 0))}
	for _, e := range []api.Event{x, outside(6, 0, 1, 0, 0), outside(5, 1, 1, 0, 0), outside(5, 0, 2, 0, 0), outside(5, 0, 1, 1, 0), outside(5, 0, 1, 0, 1)} {
		l = append(l, of(t, ofIdle(2), e))
	}
	for i, a := range l {
		for j, b := range l {
			mustBeSame(t, a, b, i == j)
		}
	}
	mustBeSame(t, l[2], behind(t, ofIdle(2), 1, x), false)

	// Both have the same Seqs, the same floor, and as many done.
	a, b := behind(t, ofIdle(2), 1, x, outside(8, 1, 1, 0, 0)), behind(t, ofIdle(2), 1, x, outside(9, 1, 1, 0, 0))
	mustBeSame(t, a, b, false)
	goOn(t, a, 1)
	mustBeSame(t, a, b, false)
}

func TestSameTellsTheFloor(t *testing.T) {
	a, b := behind(t, ofIdle(1), 1, outside(5, 0, 1, 0, 0)), behind(t, ofIdle(1), 1, outside(6, 0, 1, 0, 0))
	mustStand(t, a, 5, 1, 0)
	mustStand(t, b, 6, 1, 0)
	mustBeSame(t, a, b, false)
	mustPut(t, a, outside(9, 1, 1, 0, 0))
	mustPut(t, b, outside(9, 1, 1, 0, 0))
	mustBeSame(t, a, b, false)
	goOn(t, a, 1)
	goOn(t, b, 1)
	mustBeSame(t, a, b, true)
}

func TestSameTellsHowManyWereDone(t *testing.T) {
	m := ofIdle(1, first(0, 3, 1, 0, 0), first(1, 3, 1, 0, 0), first(2, 3, 1, 0, 0))
	for i := range 4 {
		for j := range 4 {
			a, b := behind(t, m, i), behind(t, m, j)
			mustBeSame(t, a, b, i == j)
		}
	}
}

func TestSameTellsWhichSeqsWerePutIn(t *testing.T) {
	for _, n := range []int{0, 1} {
		a, b := behind(t, ofIdle(1), n, outside(5, 0, 1, 0, 0)), behind(t, ofIdle(1), n, outside(5, 1, 1, 0, 0))
		mustBeSame(t, a, b, false)
		mustPut(t, a, outside(7, 1, 1, 0, 0))
		mustPut(t, b, outside(7, 0, 1, 0, 0))
		goOn(t, a, 2-n)
		goOn(t, b, 2-n)
		mustBeSame(t, a, b, true) // all the same was put in, and was done
	}
}

func TestSameByOtherSteps(t *testing.T) {
	x, y, z := outside(5, 0, 1, 1, 4), outside(9, 1, 2, 2, 5), outside(20, 2, 1, 3, 0)
	want := behind(t, twins(), 2, x, y, z)
	mustStand(t, want, 9, 2, 1)

	s := of(t, twins(), z, y)
	mustPut(t, s, x)
	goOn(t, s, 2)
	mustBeSame(t, s, want, true)

	s = of(t, twins(), x)
	mustNotPut(t, s, outside(5, 0, 2, 1, 4), api.ErrTwice)
	goOn(t, s, 1)
	mustNotStep(t, s, api.ErrNone)
	mustPut(t, s, y)
	goOn(t, s.Copy(), 1)
	begins(s.All(), 9)
	goOn(t, s, 1)
	mustNotPut(t, s, outside(9, 2, 1, 3, 0), api.ErrTime)
	mustBeSame(t, s, want, false)
	mustPut(t, s, z)
	mustBeSame(t, s, want, true)
	mustBeSame(t, s, want.Copy(), true)

	// What was done need not have been the same.
	mustBeSame(t, behind(t, twins(), 2, outside(5, 0, 1, 1, 9), outside(6, 1, 1, 1, 3)), behind(t, twins(), 2, outside(4, 0, 2, 0, 0), outside(6, 1, 1, 1, 3)), true)
}

func TestSameChangesNothing(t *testing.T) {
	a, b := behind(t, relay(), 3), behind(t, relay(), 4)
	wasA, wasB := look(a), look(b)
	mustBeSame(t, a, b, false)
	mustBeSame(t, a, nil, false)
	mustLook(t, a, wasA)
	mustLook(t, b, wasB)
}

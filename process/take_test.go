package process_test

import (
	"math"
	"slices"
	"testing"

	"riffle/api"
)

// P14.2: Take of what may not come, P0.3

func TestTakeOfNone(t *testing.T) {
	for name, p := range none() {
		for _, x := range []api.Message{{}, message(event(5, 2, 0, 0, 0), 1), anti(message(event(5, 2, 0, 0, 0), 1)), back(message(event(-1, 1, 0, 0, 0), -1))} {
			if l, err := p.Take(x); l != nil || err != api.ErrNil {
				t.Errorf("%s: Take(%+v): %+v, %v", name, x, l, err)
			}
		}
	}
}

// faultsOfMessages each change one thing of a message for process 1 of three, so that it may not come to it.
func faultsOfMessages() map[string]func(x *api.Message) {
	return map[string]func(x *api.Message){
		"a time below 0":      func(x *api.Message) { x.Time = -1 },
		"the least time":      func(x *api.Message) { x.Time = math.MinInt64 },
		"a time too great":    func(x *api.Message) { x.Time = api.MaxTime + 1 },
		"the greatest time":   func(x *api.Message) { x.Time = math.MaxInt64 },
		"an origin below 0":   func(x *api.Message) { x.Origin = -1 },
		"an origin too great": func(x *api.Message) { x.Origin = api.Outside + 1 },
		"a Seq below 0":       func(x *api.Message) { x.Seq = -1 },
		"a Seq too great":     func(x *api.Message) { x.Seq = api.MaxSeq + 1 },
		"no process":          func(x *api.Message) { x.To = 0 },
		"a process below 0":   func(x *api.Message) { x.To = -1 },
		"a process too many":  func(x *api.Message) { x.To = 4 },
		"a kind below 0":      func(x *api.Message) { x.Kind = -1 },
		"a kind too great":    func(x *api.Message) { x.Kind = api.MaxKinds },
		"a serial below 0":    func(x *api.Message) { x.Serial = -1 },
		"the least serial":    func(x *api.Message) { x.Serial = math.MinInt64 },
		"both Anti and Back":  func(x *api.Message) { x.Anti, x.Back = true, true },
	}
}

// messages are an event, an anti, and one that goes back, each of which may come to process 1.
func messages() []api.Message {
	x := message(event(15, 1, 3, foldsAlone, 4), 6)
	return []api.Message{x, anti(x), back(x)}
}

func TestTakeOfWhatMayNotBe(t *testing.T) {
	for name, change := range faultsOfMessages() {
		t.Run(name, func(t *testing.T) {
			for runs := range 4 {
				for _, x := range messages() {
					p := behind(t, 2, runs)
					settle(t, p, runs/2)
					change(&x)
					mustNotTake(t, p, x, api.ErrArg)
				}
			}
		})
	}
	for runs := range 4 {
		for _, x := range messages() { // without a fault each may come
			p := behind(t, 2, runs)
			if _, err := p.Take(x); err != api.OK {
				t.Errorf("%+v: %v", x, err)
			}
		}
	}
}

func TestTakeOfAnotherProcesses(t *testing.T) {
	for proc := 1; proc <= 3; proc++ {
		for to := 1; to <= 3; to++ {
			for origin := range api.Outside + 1 {
				p := mustMake(t, folder(), proc, 1)
				x := message(event(5, origin, 3, 0, 4), 6)
				x.To = to
				for _, m := range []struct {
					message api.Message
					may     bool
				}{{x, to == proc}, {anti(x), to == proc}, {back(x), origin == proc}} {
					if !m.may {
						mustNotTake(t, p, m.message, api.ErrArg)
					} else if _, err := p.Copy().Take(m.message); err != api.OK {
						t.Errorf("process %d: Take(%+v): %v", proc, m.message, err)
					}
				}
			}
		}
	}
}

func TestTakeAtTheEdges(t *testing.T) {
	for _, x := range []api.Message{
		message(event(0, 0, 0, 0, 0), 0),
		message(event(api.MaxTime, api.Outside, api.MaxSeq, api.MaxKinds-1, math.MaxInt64), math.MaxInt64),
		message(event(0, 1, 0, 0, math.MinInt64), 0),
		message(event(0, api.MaxProcs, 0, 0, 0), 0),
	} {
		p := mustMake(t, ofIdle(1), 1, 1)
		mustTakeAll(t, p, x)
		mustHave(t, p, nil, []api.Message{x})
		mustNotTake(t, p, x, api.ErrTwice)
		mustRun(t, p)
		mustHave(t, p, []api.Message{x}, nil)
		mustTakeAll(t, p, anti(x))
		mustHave(t, p, nil, nil)
		mustTakeAll(t, p, anti(x))
		mustTakeAll(t, p, x)
		mustHave(t, p, nil, nil)
	}
}

// A message's colour is of no meaning to a process.
func TestColoursAreNotLookedAt(t *testing.T) {
	for _, colour := range []int{math.MinInt, -1, 1, 7, math.MaxInt} {
		p, o := behind(t, 2, 2), behind(t, 2, 2)
		for _, x := range []api.Message{
			message(event(15, 2, 0, foldsAlone, 1), 5),
			anti(message(event(16, 2, 1, foldsAlone, 1), 6)),
			message(event(16, 2, 1, foldsAlone, 1), 6),
			anti(message(event(15, 2, 0, foldsAlone, 1), 5)),
			back(message(event(15, 1, 0, foldsAlone, 1), 5)),
		} {
			want, _ := o.Take(x)
			x.Colour = colour
			mustTake(t, p, x, want...)
			mustBeSame(t, p, o, true)
		}
	}
}

func TestTakeTwice(t *testing.T) {
	for runs := range 5 {
		p := behind(t, 2, 0)
		x := message(event(15, 2, 4, foldsAlone, 5), 9)
		mustTakeAll(t, p, x)
		goOn(t, p, runs)
		for _, m := range slices.Concat([]api.Message{x}, firsts(0, 1, 3)) {
			mustNotTake(t, p, m, api.ErrTwice)
			// It is one of that origin and serial, whatever else it is.
			for _, change := range []func(m *api.Message){
				func(m *api.Message) { m.Time = 0 }, func(m *api.Message) { m.Time = 99 }, func(m *api.Message) { m.Seq = 77 },
				func(m *api.Message) { m.Kind = draws }, func(m *api.Message) { m.Data = -1 },
			} {
				again := m
				change(&again)
				mustNotTake(t, p, again, api.ErrTwice)
			}
		}
		// One of another origin, or serial, is another one.
		mustTake(t, p.Copy(), message(event(99, 3, 4, foldsAlone, 5), 9))
		mustTake(t, p.Copy(), message(event(99, 2, 4, foldsAlone, 5), 10))
	}
}

// Twice is told ahead of its being too late.
func TestTakeTwiceAndTooLate(t *testing.T) {
	p := behind(t, 1, 3)
	settle(t, p, 2)
	late := firsts(0)[0]
	late.Time = 5
	mustNotTake(t, p, late, api.ErrTwice)
	late.Serial = 7
	mustNotTake(t, p, late, api.ErrTime)
	late.Time, late.Kind = 30, api.MaxKinds
	late.Serial = 0
	mustNotTake(t, p, late, api.ErrArg)
}

// What is committed, or undone, is there no more.
func TestTakeOfWhatWasThere(t *testing.T) {
	p := behind(t, 1, 3)
	settle(t, p, 1)
	again := firsts(1)[0]
	mustNotTake(t, p, again, api.ErrTime)
	again.Time = 40
	mustTake(t, p, again)
	mustNotTake(t, p, again, api.ErrTwice)
	mustTake(t, p, anti(again))
	mustTake(t, p, again)
}

func TestTakeAtTheLastCommittedKey(t *testing.T) {
	for _, every := range everies() {
		for runs := 1; runs < 4; runs++ {
			p := behind(t, every, 0)
			x := message(event(8, 5, 50, foldsAlone, 5), 4)
			mustTakeAll(t, p, x)
			goOn(t, p, runs)
			settle(t, p, 1)
			for _, k := range []api.Key{
				{Time: 0}, {Time: 7, Origin: api.Outside, Seq: api.MaxSeq},
				{Time: 8}, {Time: 8, Origin: 4, Seq: api.MaxSeq}, {Time: 8, Origin: 5}, {Time: 8, Origin: 5, Seq: 49}, {Time: 8, Origin: 5, Seq: 50},
			} {
				mustNotTake(t, p, message(event(k.Time, k.Origin, k.Seq, foldsAlone, 1), 7), api.ErrTime)
				// antis, and what goes back, are not asked when
				mustTake(t, p.Copy(), anti(message(event(k.Time, k.Origin, k.Seq, foldsAlone, 1), 7)))
				mustTake(t, p.Copy(), back(message(event(k.Time, 1, k.Seq, foldsAlone, 1), 7)), message(event(k.Time, 1, k.Seq, foldsAlone, 1), 7))
			}
			for _, k := range []api.Key{
				{Time: 8, Origin: 5, Seq: 51}, {Time: 8, Origin: 6}, {Time: 8, Origin: api.Outside}, {Time: 9}, {Time: 9, Origin: 5, Seq: 50},
			} {
				c := p.Copy()
				y := message(event(k.Time, k.Origin, k.Seq, foldsAlone, 1), 70)
				if _, err := c.Take(y); err != api.OK {
					t.Errorf("%+v is refused: %v", k, err)
				}
				mustHave(t, c, nil, slices.Concat([]api.Message{y}, firsts(1, 3, 0)))
			}
		}
	}
}

func TestTakeWhereNothingIsCommitted(t *testing.T) {
	p := behind(t, 1, 1)
	x := message(event(0, 0, 0, foldsAlone, 1), 9)
	mustTake(t, p, x, antis(pair(10, 0, 1, fold(1), 1)...)...)
	mustHave(t, p, nil, slices.Concat([]api.Message{x}, firsts(1, 3, 0)))
	mustRun(t, p)
	mustCommit(t, p, x, fold(1))
	mustNotTake(t, p, message(event(0, 0, 0, foldsAlone, 1), 10), api.ErrTime)
	mustTake(t, p, message(event(0, 0, 1, foldsAlone, 1), 10))
}

// Where what comes is too late, also its anti stays.
func TestTakeTooLateOfWhatIsUndone(t *testing.T) {
	p := behind(t, 1, 1)
	settle(t, p, 1)
	x := message(event(10, 0, 1, foldsAlone, 1), 70)
	mustTake(t, p, anti(x))
	mustNotTake(t, p, x, api.ErrTime)
	if p.Antis() != 1 {
		t.Errorf("%d antis are kept", p.Antis())
	}
	x.Seq = 2
	mustTake(t, p, x)
	if p.Antis() != 0 {
		t.Errorf("%d antis are kept", p.Antis())
	}
}

func TestTakeAnswersTheCallersOwn(t *testing.T) {
	p := behind(t, 2, 3)
	c := p.Copy()
	x := message(event(15, 2, 0, foldsAlone, 9), 1)
	l, _ := p.Take(x)
	was, d := look(p), p.Copy()
	clear(l[:cap(l)])
	mustLook(t, p, was)
	mustBeSame(t, p, d, true)
	mustTake(t, c, x, antis(slices.Concat(pair(20, 2, 2, fold(1, 2), 3), pair(30, 4, 3, fold(1, 2, 3), 5))...)...)
	for _, q := range []interface {
		Run() ([]api.Message, api.Errno)
	}{p, c} {
		q.Run()
		q.Run()
	}
	mustBeSame(t, p, c, true)
}

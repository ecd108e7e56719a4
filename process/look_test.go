package process_test

import (
	"fmt"
	"testing"

	"riffle/api"
)

// P14.3: Least, First, Last, State, Base, Waits, Log, Antis, Room

func TestLooksAtNone(t *testing.T) {
	for _, p := range none() {
		mustLook(t, p, sight{})
		if p.Waits() != nil || p.Log() != nil {
			t.Errorf("%+v waits, the log is %+v", p.Waits(), p.Log())
		}
	}
}

// Each look is taken ahead of and behind each act.
func TestLooksAheadOfAndBehindEachAct(t *testing.T) {
	a, b, c := firsts(1)[0], firsts(3)[0], firsts(0)[0]
	x, y := message(event(15, 2, 0, foldsAlone, 9), 1), message(event(12, 3, 0, foldsAlone, 5), 2)
	key := func(m api.Message) place { return place{m.Key, true} }
	state := func(sent int64, data ...int64) api.State {
		return api.State{Vars: []int64{fold(data...), 0}, Sent: sent}
	}
	for _, every := range everies() {
		p := mustMake(t, folder(), 1, every)
		act := func(do func() ([]api.Message, api.Errno), want sight) {
			t.Helper()
			if l, err := do(); err != api.OK {
				t.Fatalf("%+v, %v", l, err)
			}
			mustLook(t, p, want)
			mustLook(t, p, want) // a look does nothing
		}
		take := func(x api.Message) func() ([]api.Message, api.Errno) {
			return func() ([]api.Message, api.Errno) { return p.Take(x) }
		}
		commit := func() ([]api.Message, api.Errno) {
			_, _, err := p.Commit()
			return nil, err
		}
		const room = api.MaxEvents
		mustLook(t, p, sight{least: key(a), state: state(0), base: state(0), waits: items(a, b, c), room: room - 3})
		act(p.Run, sight{least: key(b), first: key(a), last: key(a), state: state(2, 1), base: state(0), waits: items(b, c), log: items(a), room: room - 3})
		act(p.Run, sight{least: key(c), first: key(a), last: key(b), state: state(4, 1, 2), base: state(0), waits: items(c), log: items(a, b), room: room - 3})
		act(p.Run, sight{first: key(a), last: key(c), state: state(6, 1, 2, 3), base: state(0), log: items(a, b, c), room: room - 3})
		act(take(anti(y)), sight{first: key(a), last: key(c), state: state(6, 1, 2, 3), base: state(0), log: items(a, b, c), antis: 1, room: room - 3})
		act(take(x), sight{least: key(x), first: key(a), last: key(a), state: state(2, 1), base: state(0), waits: items(x, b, c), log: items(a), antis: 1, room: room - 4})
		act(commit, sight{least: key(x), state: state(2, 1), base: state(2, 1), waits: items(x, b, c), antis: 1, room: room - 3})
		act(p.Run, sight{least: key(b), first: key(x), last: key(x), state: state(2, 1, 9), base: state(2, 1), waits: items(b, c), log: items(x), antis: 1, room: room - 3})
		act(p.Run, sight{least: key(c), first: key(x), last: key(b), state: state(4, 1, 9, 2), base: state(2, 1), waits: items(c), log: items(x, b), antis: 1, room: room - 3})
		act(take(y), sight{least: key(c), first: key(x), last: key(b), state: state(4, 1, 9, 2), base: state(2, 1), waits: items(c), log: items(x, b), room: room - 3})
		act(take(y), sight{least: key(y), state: state(2, 1), base: state(2, 1), waits: items(y, x, b, c), room: room - 4})
		act(take(anti(x)), sight{least: key(y), state: state(2, 1), base: state(2, 1), waits: items(y, b, c), room: room - 3})
		act(p.Run, sight{least: key(b), first: key(y), last: key(y), state: state(2, 1, 5), base: state(2, 1), waits: items(b, c), log: items(y), room: room - 3})
		act(p.Run, sight{least: key(c), first: key(y), last: key(b), state: state(4, 1, 5, 2), base: state(2, 1), waits: items(c), log: items(y, b), room: room - 3})
		act(take(back(pair(20, 2, 2, fold(1, 5, 2), 7)[0])), sight{least: key(c), first: key(y), last: key(b), state: state(4, 1, 5, 2), base: state(2, 1), waits: items(c), log: items(y, b), room: room - 3})
		act(take(anti(y)), sight{least: key(b), state: state(2, 1), base: state(2, 1), waits: items(b, c), room: room - 2})
		act(p.Run, sight{least: key(c), first: key(b), last: key(b), state: state(4, 1, 2), base: state(2, 1), waits: items(c), log: items(b), room: room - 2})
		act(commit, sight{least: key(c), state: state(4, 1, 2), base: state(4, 1, 2), waits: items(c), room: room - 1})
		act(take(anti(c)), sight{state: state(4, 1, 2), base: state(4, 1, 2), room: room})
	}
}

func TestLooksAreTheCallersOwn(t *testing.T) {
	for runs := range 4 {
		for commits := 0; commits <= runs; commits++ {
			p := behind(t, 2, runs)
			settle(t, p, commits)
			was, c := look(p), p.Copy()
			for range 2 {
				for _, s := range []api.State{p.State(), p.Base()} {
					clear(s.Vars[:cap(s.Vars)])
					_ = append(s.Vars[:0], 1, 2)
				}
				for _, l := range [][]api.Item{p.Waits(), p.Log()} {
					clear(l[:cap(l)])
					_ = append(l[:0], item(message(event(1, 1, 1, 1, 1), 1)))
				}
				mustLook(t, p, was)
				mustBeSame(t, p, c, true)
			}
			for p.Room() < api.MaxEvents { // it goes on as it would have
				l, err := p.Run()
				m, errno := c.Run()
				mustBeSame(t, p, c, true)
				if err != errno || len(l) != len(m) {
					t.Fatalf("%+v, %v and %+v, %v", l, err, m, errno)
				}
				settle(t, p, 1)
				settle(t, c, 1)
			}
		}
	}
}

// What was looked at stays as it was.
func TestWhatWasLookedAtStays(t *testing.T) {
	for _, every := range everies() {
		p := mustMake(t, folder(), 1, every)
		var l []sight
		var texts []string
		keep := func() {
			l = append(l, look(p))
			texts = append(texts, fmt.Sprintf("%+v", l[len(l)-1]))
		}
		keep()
		for range 3 {
			goOn(t, p, 1)
			keep()
		}
		p.Take(message(event(12, 2, 0, foldsAlone, 9), 1))
		keep()
		goOn(t, p, 3)
		keep()
		settle(t, p, 4)
		for i := range l {
			if got := fmt.Sprintf("%+v", l[i]); got != texts[i] {
				t.Errorf("the look %d became %s, it was %s", i, got, texts[i])
			}
		}
	}
}

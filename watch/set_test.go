package watch_test

import (
	"slices"
	"testing"

	"riffle/api"
	"riffle/watch"
)

var (
	mayNot = []api.Break{
		{Proc: -1, Kind: -1}, {Proc: api.MaxProcs + 1, Kind: -1}, {Proc: least, Kind: 1}, {Proc: most, Kind: 1},
		{Kind: -2}, {Kind: api.MaxKinds}, {Kind: least}, {Kind: most},
		{Time: -1}, {Time: api.MaxTime + 1}, {Time: least}, {Time: most},
	}
	may = []api.Break{
		{}, {Kind: -1}, {Proc: 1}, {Proc: api.MaxProcs}, {Kind: api.MaxKinds - 1}, {Time: 1}, {Time: api.MaxTime},
		{Proc: api.MaxProcs, Kind: api.MaxKinds - 1, Time: api.MaxTime},
	}
)

// P11.2

func TestNewHasNone(t *testing.T) {
	w := of(t)
	mustHave(t, w)
	for _, id := range []uint32{0, 1, last} {
		mustNotHave(t, w, id)
		mustNotClear(t, w, id, api.ErrNone)
	}
	mustSet(t, w, 1, every)
	mustHave(t, of(t))
}

func TestSetAndClear(t *testing.T) {
	b, c, d := api.Break{Proc: 2, Kind: 1, Time: 10}, api.Break{Proc: 3, Kind: -1, Time: 20}, api.Break{Kind: 4}
	w := of(t)
	mustSet(t, w, 5, b)
	mustHave(t, w, numbered{5, b})
	mustSet(t, w, 3, c)
	mustHave(t, w, numbered{3, c}, numbered{5, b})
	mustSet(t, w, 4, d)
	mustHave(t, w, numbered{3, c}, numbered{4, d}, numbered{5, b})
	mustClear(t, w, 3)
	mustHave(t, w, numbered{4, d}, numbered{5, b})
	mustNotHave(t, w, 3)
	mustNotClear(t, w, 3, api.ErrNone)
	mustClear(t, w, 5)
	mustHave(t, w, numbered{4, d})
	mustSet(t, w, 3, b)
	mustHave(t, w, numbered{3, b}, numbered{4, d})
	mustClear(t, w, 4)
	mustClear(t, w, 3)
	mustHave(t, w)
	for _, id := range []uint32{3, 4, 5} {
		mustNotHave(t, w, id)
		mustNotClear(t, w, id, api.ErrNone)
	}
}

func TestSetOfAllThatMayBe(t *testing.T) {
	w := of(t)
	for _, b := range may {
		mustSet(t, w, 6, b)
		mustHave(t, w, numbered{6, b})
		mustClear(t, w, 6)
		mustHave(t, w)
	}
}

func TestNumbersFromTheFirstToTheLast(t *testing.T) {
	ids := []uint32{0, 1, 1 << 15, 1<<16 - 1, 1 << 16, 1<<31 - 1, 1 << 31, last - 1, last}
	w := of(t)
	var want []numbered
	for i, id := range ids {
		x := numbered{id, api.Break{Time: int64(i)}}
		want = append(want, x)
		mustSet(t, w, id, x.b)
	}
	mustHave(t, w, want...)
	for _, id := range []uint32{last, 0} {
		mustNotSet(t, w, id, every, api.ErrTwice)
		mustClear(t, w, id)
		mustNotHave(t, w, id)
		mustNotClear(t, w, id, api.ErrNone)
	}
	mustHave(t, w, want[1:len(want)-1]...)
}

func TestTwoNumbersOfOneBreakpoint(t *testing.T) {
	w := of(t, numbered{1, every}, numbered{2, every})
	mustHave(t, w, numbered{1, every}, numbered{2, every})
	mustClear(t, w, 1)
	mustHave(t, w, numbered{2, every})
}

func TestSetOfANumberThatIsThere(t *testing.T) {
	w := of(t, row(4)...)
	for _, x := range row(4) {
		mustNotSet(t, w, x.id, x.b, api.ErrTwice)
		mustNotSet(t, w, x.id, every, api.ErrTwice)
	}
	mustHave(t, w, row(4)...)
	mustClear(t, w, 3)
	mustSet(t, w, 3, every)
	mustNotSet(t, w, 3, row(4)[1].b, api.ErrTwice)
}

func TestSetOfWhatMayNotBe(t *testing.T) {
	for n := range api.MaxBreaks + 1 {
		w := of(t, row(n)...)
		for _, b := range mayNot {
			// of a number that is not there, and of one that is
			mustNotSet(t, w, 1, b, api.ErrArg)
			mustNotSet(t, w, 0, b, api.ErrArg)
		}
		mustHave(t, w, row(n)...)
	}
}

func TestAFullWatch(t *testing.T) {
	l := row(api.MaxBreaks)
	w := of(t, l[:api.MaxBreaks-1]...)
	mustSet(t, w, l[api.MaxBreaks-1].id, l[api.MaxBreaks-1].b)
	mustHave(t, w, l...)
	for _, id := range []uint32{1, 2, 3*api.MaxBreaks - 1, 3 * api.MaxBreaks, last} {
		mustNotSet(t, w, id, every, api.ErrFull)
		mustNotHave(t, w, id)
	}
	for _, x := range l {
		mustNotSet(t, w, x.id, every, api.ErrTwice)
		mustNotSet(t, w, x.id, x.b, api.ErrTwice)
		mustNotSet(t, w, x.id, mayNot[0], api.ErrArg)
		mustNotSet(t, w, x.id+1, mayNot[0], api.ErrArg)
	}
	mustNotClear(t, w, 1, api.ErrNone)
	mustHave(t, w, l...)
}

func TestThereIsRoomAgainBehindAClear(t *testing.T) {
	for i, x := range row(api.MaxBreaks) {
		l := row(api.MaxBreaks)
		w := of(t, l...)
		mustNotSet(t, w, 1, every, api.ErrFull)
		mustClear(t, w, x.id)
		mustNotClear(t, w, x.id, api.ErrNone)
		more := numbered{x.id + 1, every}
		mustSet(t, w, more.id, more.b)
		l[i] = more
		mustHave(t, w, l...)
		mustNotSet(t, w, x.id, every, api.ErrFull)
		mustNotSet(t, w, more.id, every, api.ErrTwice)
	}
}

func TestNilOnes(t *testing.T) {
	var w *watch.Watch
	for _, id := range []uint32{0, 1, last} {
		for _, b := range slices.Concat(mayNot, may) {
			if err := w.Set(id, b); err != api.ErrNil {
				t.Errorf("Set(%d, %+v): %v, want %v", id, b, err, api.ErrNil)
			}
		}
		if err := w.Clear(id); err != api.ErrNil {
			t.Errorf("Clear(%d): %v, want %v", id, err, api.ErrNil)
		}
		mustNotHave(t, w, id)
	}
	if n := w.Len(); n != 0 {
		t.Errorf("Len: %d", n)
	}
	mustHave(t, w)
}

// The Types: a zero Watch is a new one.

func TestAZeroWatchIsANewOne(t *testing.T) {
	steps := []func(w *watch.Watch){
		func(w *watch.Watch) {},
		func(w *watch.Watch) { w.Set(0, every) },
		func(w *watch.Watch) { w.Set(last, every); w.Set(4, api.Break{Proc: 4}) },
		func(w *watch.Watch) { w.Set(1, every); w.Set(1, api.Break{}) },
		func(w *watch.Watch) { w.Set(1, mayNot[0]) },
		func(w *watch.Watch) { w.Clear(1) },
		func(w *watch.Watch) { w.Clear(1); w.Set(1, every) },
		func(w *watch.Watch) { w.Set(1, every); w.Clear(1) },
		func(w *watch.Watch) {
			w.Match(event(1, 1, 1))
			w.Get(1)
			w.Len()
			w.All()
			w.Copy()
			w.Same(w)
		},
		func(w *watch.Watch) {
			for _, x := range row(api.MaxBreaks + 1) {
				w.Set(x.id, x.b)
			}
		},
	}
	for i, step := range steps {
		var zero watch.Watch
		w := watch.New()
		step(&zero)
		step(w)
		mustHave(t, &zero, list(w)...)
		if !zero.Same(w) || !w.Same(&zero) || !zero.Copy().Same(w) {
			t.Errorf("step %d: a zero one comes to %+v, a new one to %+v", i, list(&zero), list(w))
		}
		for _, e := range []api.Event{event(0, 1, 1), event(999, 4, 1), event(api.MaxTime, 16, 7)} {
			id, ok := w.Match(e)
			if zid, zok := zero.Match(e); zid != id || zok != ok {
				t.Errorf("step %d: of a zero one Match of %+v is %d, %v, of a new one %d, %v", i, e, zid, zok, id, ok)
			}
		}
	}
}

func TestErrorsOfAZeroWatch(t *testing.T) {
	var w watch.Watch
	mustHave(t, &w)
	mustNotHave(t, &w, 0)
	mustNotMatch(t, &w, event(0, 1, 0))
	mustNotClear(t, &w, 0, api.ErrNone)
	mustNotSet(t, &w, 0, mayNot[0], api.ErrArg)
	mustSet(t, &w, 0, every)
	mustNotSet(t, &w, 0, every, api.ErrTwice)
	mustMatch(t, &w, event(0, 1, 0), 0)
	mustClear(t, &w, 0)
	mustHave(t, &w)
}

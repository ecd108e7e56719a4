package watch_test

import (
	"testing"

	"riffle/api"
	"riffle/watch"
)

func mustBeSame(t *testing.T, w, o *watch.Watch, want bool) {
	t.Helper()
	if w.Same(o) != want || o.Same(w) != want {
		t.Errorf("Same of %+v and %+v: %v, %v, want %v", list(w), list(o), w.Same(o), o.Same(w), want)
	}
}

// P11.4: Copy

func TestCopiesAreTheSame(t *testing.T) {
	for n := range api.MaxBreaks + 1 {
		w := of(t, row(n)...)
		c := w.Copy()
		if c == w {
			t.Fatal("a copy is the watch itself")
		}
		mustHave(t, c, row(n)...)
		mustHave(t, w, row(n)...)
		mustBeSame(t, w, c, true)
		mustMatch(t, of(t, numbered{5, every}).Copy(), event(0, 1, 0), 5)
	}
}

func TestCopyOfNil(t *testing.T) {
	var w *watch.Watch
	if c := w.Copy(); c != nil {
		t.Errorf("a copy of nil is %+v", list(c))
	}
}

func TestCopiesGoOnApart(t *testing.T) {
	l := row(5)
	w := of(t, l...)
	c := w.Copy()
	mustSet(t, c, 1, every)
	mustClear(t, c, l[3].id)
	mustHave(t, w, l...)
	mustMatch(t, c, event(0, 9, 7), 1)
	mustNotMatch(t, w, event(0, 9, 7))
	changed := list(c)
	mustClear(t, w, l[0].id)
	mustClear(t, w, l[4].id)
	mustSet(t, w, l[4].id, every)
	mustSet(t, w, 2, every)
	mustHave(t, c, changed...)
	mustHave(t, c, l[0], numbered{1, every}, l[1], l[2], l[4])
	mustHave(t, w, numbered{2, every}, l[1], l[2], l[3], numbered{l[4].id, every})
	mustBeSame(t, w, c, false)
}

func TestCopyOfAFullWatch(t *testing.T) {
	l := row(api.MaxBreaks)
	w := of(t, l...)
	c := w.Copy()
	mustNotSet(t, c, 1, every, api.ErrFull)
	mustNotSet(t, c, l[2].id, every, api.ErrTwice)
	mustClear(t, c, l[0].id)
	mustNotSet(t, w, 1, every, api.ErrFull)
	mustSet(t, c, 1, every)
	mustHave(t, w, l...)
}

func TestCopiesOfNoneGoOnApart(t *testing.T) {
	for _, w := range []*watch.Watch{{}, watch.New()} {
		c := w.Copy()
		if c == nil {
			t.Fatal("a copy is nil")
		}
		mustBeSame(t, w, c, true)
		mustSet(t, c, 1, every)
		mustHave(t, w)
		mustSet(t, w, 2, every)
		mustHave(t, c, numbered{1, every})
		mustHave(t, w, numbered{2, every})
	}
}

// P11.4: Same

func TestSameOfNil(t *testing.T) {
	mustBeSame(t, nil, nil, true)
	for _, w := range []*watch.Watch{{}, watch.New(), of(t, numbered{0, every}), of(t, row(api.MaxBreaks)...)} {
		mustBeSame(t, nil, w, false)
		mustBeSame(t, w, w, true)
	}
}

func TestSameOfNone(t *testing.T) {
	cleared := of(t, numbered{4, every})
	mustClear(t, cleared, 4)
	mustBeSame(t, &watch.Watch{}, watch.New(), true)
	mustBeSame(t, cleared, watch.New(), true)
	mustBeSame(t, cleared, &watch.Watch{}, true)
	mustBeSame(t, watch.New(), of(t, numbered{0, api.Break{}}), false)
	mustBeSame(t, &watch.Watch{}, of(t, numbered{0, api.Break{}}), false)
}

func TestSameTellsEachPart(t *testing.T) {
	b := api.Break{Proc: 2, Kind: 3, Time: 10}
	x := numbered{7, b}
	for _, o := range []numbered{
		{6, b}, {8, b}, {0, b}, {last, b},
		{7, api.Break{Proc: 1, Kind: 3, Time: 10}}, {7, api.Break{Proc: 0, Kind: 3, Time: 10}},
		{7, api.Break{Proc: 2, Kind: 2, Time: 10}}, {7, api.Break{Proc: 2, Kind: -1, Time: 10}},
		{7, api.Break{Proc: 2, Kind: 3, Time: 9}}, {7, api.Break{Proc: 2, Kind: 3, Time: 11}}, {7, api.Break{Proc: 2, Kind: 3, Time: 1<<32 + 10}},
		{7, api.Break{}},
	} {
		mustBeSame(t, of(t, x), of(t, o), false)
		more := numbered{20, every}
		mustBeSame(t, of(t, x, more), of(t, more, o), false)
	}
	mustBeSame(t, of(t, x), of(t, x), true)
	mustBeSame(t, of(t, x), of(t, x, numbered{8, b}), false)
	mustBeSame(t, of(t, numbered{1, every}, numbered{2, b}), of(t, numbered{1, b}, numbered{2, every}), false)
}

func TestSameWhateverTheSteps(t *testing.T) {
	l := row(api.MaxBreaks)
	w := of(t, l...)
	for seed := range int64(10) {
		mustBeSame(t, w, of(t, shuffled(l, seed)...), true)
	}
	way := of(t, numbered{1, every}, numbered{0, every})
	mustNotSet(t, way, 1, every, api.ErrTwice)
	mustNotSet(t, way, 2, api.Break{Time: -1}, api.ErrArg)
	mustClear(t, way, 0)
	mustNotClear(t, way, 0, api.ErrNone)
	for _, x := range l[1:] {
		mustSet(t, way, x.id, x.b)
	}
	mustBeSame(t, w, way, false)
	mustClear(t, way, 1)
	mustBeSame(t, w, way, false)
	mustSet(t, way, l[0].id, l[0].b)
	mustBeSame(t, w, way, true)
	mustNotSet(t, way, 1, every, api.ErrFull)
	mustBeSame(t, w, way, true)
	mustBeSame(t, w, way.Copy(), true)
}

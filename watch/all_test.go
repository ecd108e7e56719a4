package watch_test

import (
	"iter"
	"slices"
	"testing"

	"riffle/api"
	"riffle/watch"
)

func collect(all iter.Seq2[uint32, api.Break]) []numbered {
	var l []numbered
	for id, b := range all {
		l = append(l, numbered{id, b})
	}
	return l
}

// P11.4: All

func TestAllByRisingNumbers(t *testing.T) {
	for n := range api.MaxBreaks + 1 {
		for seed := range int64(10) {
			w := of(t, shuffled(row(n), seed)...)
			mustHave(t, w, row(n)...)
		}
	}
	far := []numbered{{0, every}, {1, every}, {256, every}, {1 << 31, every}, {last, every}}
	for seed := range int64(10) {
		mustHave(t, of(t, shuffled(far, seed)...), far...)
	}
}

func TestAllIsAsItIsWhenItIsCalled(t *testing.T) {
	l := row(9)
	w, none := of(t, l...), of(t)
	all, was := w.All(), none.All()
	mustClear(t, w, l[4].id)
	mustSet(t, w, l[4].id, every)
	mustClear(t, w, l[0].id)
	mustSet(t, w, 1, every)
	mustSet(t, none, 2, every)
	for range 2 {
		if got := collect(all); !slices.Equal(got, l) {
			t.Errorf("%+v, want %+v", got, l)
		}
		if got := collect(was); len(got) != 0 {
			t.Errorf("%+v, want none", got)
		}
	}
	for _, x := range list(w) {
		mustClear(t, w, x.id)
	}
	if got := collect(all); !slices.Equal(got, l) {
		t.Errorf("%+v, want %+v", got, l)
	}
}

func TestAllWhileTheWatchChanges(t *testing.T) {
	l := row(6)
	w := of(t, l...)
	var got []numbered
	for id, b := range w.All() {
		got = append(got, numbered{id, b})
		switch len(got) {
		case 1:
			mustClear(t, w, l[0].id)
			mustClear(t, w, l[1].id)
		case 2:
			mustSet(t, w, 1, every)
			mustSet(t, w, 10, every)
		case 3:
			mustClear(t, w, l[5].id)
			mustSet(t, w, l[5].id, every)
		}
	}
	if !slices.Equal(got, l) {
		t.Errorf("%+v, want %+v", got, l)
	}
	mustHave(t, w, numbered{1, every}, l[2], l[3], numbered{10, every}, l[4], numbered{l[5].id, every})
}

func TestAllIsLeftEarlyAndGoneThroughAgain(t *testing.T) {
	l := row(9)
	w := of(t, shuffled(l, 5)...)
	all := w.All()
	for n := range len(l) + 1 {
		var got []numbered
		for id, b := range all {
			if len(got) == n {
				break
			}
			got = append(got, numbered{id, b})
		}
		if !slices.Equal(got, l[:n]) {
			t.Errorf("%+v, want %+v", got, l[:n])
		}
	}
	for range 2 {
		if got := collect(all); !slices.Equal(got, l) {
			t.Errorf("%+v, want %+v", got, l)
		}
	}
	mustHave(t, w, l...)
}

func TestAllIsNotAskedAgainWhenItIsLeft(t *testing.T) {
	asked := 0
	of(t, row(5)...).All()(func(uint32, api.Break) bool {
		asked++
		return asked < 2
	})
	if asked != 2 {
		t.Errorf("asked %d times, want 2", asked)
	}
}

func TestAllWithinAll(t *testing.T) {
	l := row(5)
	all := of(t, l...).All()
	n := 0
	for i, b := range all {
		for j, c := range all {
			if (numbered{i, b}) != l[n/5] || (numbered{j, c}) != l[n%5] {
				t.Errorf("%d: %d and %d", n, i, j)
			}
			n++
		}
	}
	if n != 25 {
		t.Errorf("%d pairs, want 25", n)
	}
}

func TestAllOfNone(t *testing.T) {
	for _, w := range []*watch.Watch{nil, {}, watch.New()} {
		all := w.All()
		if all == nil {
			t.Fatal("All is nil")
		}
		if got := collect(all); len(got) != 0 {
			t.Errorf("%+v, want none", got)
		}
	}
}

package watch_test

import (
	"cmp"
	"math/rand"
	"slices"
	"testing"

	"riffle/api"
	"riffle/watch"
)

// rising is a watch as its words tell it: a list by rising numbers.
type rising []numbered

func (r rising) find(id uint32) (int, bool) {
	return slices.BinarySearchFunc(r, id, func(x numbered, id uint32) int { return cmp.Compare(x.id, id) })
}

func (r *rising) set(id uint32, b api.Break) api.Errno {
	i, there := r.find(id)
	switch {
	case !watch.May(b):
		return api.ErrArg
	case there:
		return api.ErrTwice
	case len(*r) == api.MaxBreaks:
		return api.ErrFull
	}
	*r = slices.Insert(*r, i, numbered{id, b})
	return api.OK
}

func (r *rising) clear(id uint32) api.Errno {
	i, there := r.find(id)
	if !there {
		return api.ErrNone
	}
	*r = slices.Delete(*r, i, i+1)
	return api.OK
}

func (r rising) match(e api.Event) (uint32, bool) {
	i := slices.IndexFunc(r, func(x numbered) bool { return watch.Matches(x.b, e) })
	if i < 0 {
		return 0, false
	}
	return r[i].id, true
}

func drawnBreak(r *rand.Rand) api.Break {
	b := api.Break{Proc: r.Intn(4), Kind: r.Intn(4) - 1, Time: int64(r.Intn(20))}
	if r.Intn(8) == 0 {
		b = mayNot[r.Intn(len(mayNot))]
	}
	return b
}

// P11.1 to P11.4, of any steps: what comes is as the words tell it.

func TestAnySteps(t *testing.T) {
	full := false
	for seed := range int64(60) {
		r := rand.New(rand.NewSource(seed))
		w, want := watch.New(), rising{}
		ids := 5 + r.Intn(40)
		for range 300 {
			id := uint32(r.Intn(ids))
			if r.Intn(4) == 0 {
				if got, err := w.Clear(id), want.clear(id); got != err {
					t.Fatalf("Clear(%d): %v, want %v", id, got, err)
				}
			} else {
				b := drawnBreak(r)
				got, err := w.Set(id, b), want.set(id, b)
				if got != err {
					t.Fatalf("Set(%d, %+v): %v, want %v", id, b, got, err)
				}
				full = full || err == api.ErrFull
			}
			e := event(int64(r.Intn(25)), 1+r.Intn(4), r.Intn(4))
			if id, ok := want.match(e); ok {
				mustMatch(t, w, e, id)
			} else {
				mustNotMatch(t, w, e)
			}
			mustHave(t, w, want...)
			if r.Intn(10) == 0 {
				w = w.Copy()
			}
		}
		mustBeSame(t, w, of(t, shuffled(want, seed)...), true)
	}
	if !full {
		t.Error("no watch was full")
	}
}

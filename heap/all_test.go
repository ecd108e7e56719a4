package heap_test

import (
	"slices"
	"testing"

	"riffle/api"
	"riffle/heap"
)

// P5.3

func mustSame(t *testing.T, a, b *heap.Heap, want bool) {
	t.Helper()
	if ab, ba := a.Same(b), b.Same(a); ab != want || ba != want {
		t.Fatalf("Same: %v, and the other way %v, want %v", ab, ba, want)
	}
}

func TestAllIsAsItIsWhenItIsCalled(t *testing.T) {
	l := row(9)
	h := of(t, l...)
	none := of(t)
	all, was := h.All(), none.All()
	mustTake(t, h, l[0])
	mustDrop(t, h, l[5])
	mustPut(t, h, item(-1, 9, 9, 9), api.OK)
	mustPut(t, none, l[0], api.OK)
	if got := slices.Collect(all); !slices.Equal(got, l) {
		t.Errorf("%+v, want %+v", got, l)
	}
	for h.Len() > 0 {
		h.Take()
	}
	for i := range 9 {
		mustPut(t, h, item(int64(i), 4, 4, int64(i)), api.OK)
	}
	if got := slices.Collect(all); !slices.Equal(got, l) {
		t.Errorf("%+v, want %+v", got, l)
	}
	if got := slices.Collect(was); len(got) != 0 {
		t.Errorf("%+v, want none", got)
	}
}

func TestAllWhileTheHeapChanges(t *testing.T) {
	l := row(9)
	h := of(t, shuffled(l, 4)...)
	var got []api.Item
	for x := range h.All() {
		got = append(got, x)
		switch len(got) {
		case 1:
			mustTake(t, h, l[0])
		case 2:
			mustDrop(t, h, l[7])
			mustDrop(t, h, l[2])
		case 3:
			mustPut(t, h, item(-1, 9, 9, 9), api.OK)
			mustPut(t, h, item(35, 9, 9, 10), api.OK)
			mustPut(t, h, item(1000, 9, 9, 11), api.OK)
		}
	}
	if !slices.Equal(got, l) {
		t.Errorf("%+v, want %+v", got, l)
	}
	mustHave(t, h, l[1], l[3], l[4], l[5], l[6], l[8], item(-1, 9, 9, 9), item(35, 9, 9, 10), item(1000, 9, 9, 11))
}

func TestAllIsLeftEarlyAndGoneThroughAgain(t *testing.T) {
	l := row(9)
	h := of(t, shuffled(l, 5)...)
	all := h.All()
	for n := range len(l) + 1 {
		var got []api.Item
		for x := range all {
			if len(got) == n {
				break
			}
			got = append(got, x)
		}
		if !slices.Equal(got, l[:n]) {
			t.Errorf("%+v, want %+v", got, l[:n])
		}
	}
	for range 2 {
		if got := slices.Collect(all); !slices.Equal(got, l) {
			t.Errorf("%+v, want %+v", got, l)
		}
	}
	mustHave(t, h, l...)
}

func TestAllWithinAll(t *testing.T) {
	l := row(5)
	all := of(t, l...).All()
	n := 0
	for x := range all {
		for y := range all {
			if x != l[n/5] || y != l[n%5] {
				t.Errorf("%d: %+v and %+v", n, x, y)
			}
			n++
		}
	}
	if n != 25 {
		t.Errorf("%d pairs, want 25", n)
	}
}

func TestAllIsNotAskedAgainWhenItIsLeft(t *testing.T) {
	asked := 0
	of(t, row(5)...).All()(func(api.Item) bool {
		asked++
		return asked < 2
	})
	if asked != 2 {
		t.Errorf("asked %d times, want 2", asked)
	}
}

func TestAllOfNone(t *testing.T) {
	for _, h := range []*heap.Heap{nil, {}, heap.New()} {
		if h.All() == nil {
			t.Fatal("All is nil")
		}
		for x := range h.All() {
			t.Errorf("%+v", x)
		}
	}
}

func TestCopyGoesOnApart(t *testing.T) {
	l := row(12)
	more := item(55, 9, 9, 9)
	other := item(-5, 8, 8, 8)
	for seed := range int64(5) {
		h := of(t, shuffled(l, seed)...)
		c := h.Copy()
		mustHave(t, c, l...)
		mustTake(t, h, l[0])
		mustDrop(t, h, l[6])
		mustPut(t, h, more, api.OK)
		mustHave(t, c, l...)
		mustDrop(t, c, l[6])
		mustDrop(t, c, l[11])
		mustPut(t, c, other, api.OK)
		mustPut(t, c, more, api.OK)
		mustTake(t, c, other)
		mustHave(t, h, append(slices.Delete(row(12), 6, 7)[1:], more)...)
		mustHave(t, c, append(slices.Delete(row(12), 6, 7)[:10], more)...)
	}
}

func TestCopyOfAFullHeap(t *testing.T) {
	l := row(api.MaxEvents)
	h := of(t, l...)
	c := h.Copy()
	mustPut(t, c, l[9], api.ErrTwice)
	mustPut(t, c, item(0, 9, 9, 9), api.ErrFull)
	mustTake(t, c, l[0])
	mustPut(t, h, item(0, 9, 9, 9), api.ErrFull)
	mustPut(t, c, item(0, 9, 9, 9), api.OK)
	mustHave(t, h, l...)
}

func TestCopyOfNone(t *testing.T) {
	for _, h := range []*heap.Heap{{}, heap.New()} {
		c := h.Copy()
		if c == nil {
			t.Fatal("a copy is nil")
		}
		mustSame(t, h, c, true)
		mustPut(t, c, item(1, 1, 1, 1), api.OK)
		mustHave(t, h)
		mustPut(t, h, item(2, 1, 1, 1), api.OK)
		mustHave(t, c, item(1, 1, 1, 1))
	}
}

func TestSameAsksForTheItemsAlone(t *testing.T) {
	l := row(20)
	for seed := range int64(10) {
		mustSame(t, of(t, l...), of(t, shuffled(l, seed)...), true)
	}
	way := of(t, row(30)...)
	for _, x := range row(30)[20:] {
		mustDrop(t, way, x)
	}
	mustTake(t, way, l[0])
	mustDrop(t, way, l[9])
	mustPut(t, way, l[9], api.OK)
	mustSame(t, way, of(t, l...), false)
	mustPut(t, way, l[0], api.OK)
	mustSame(t, way, of(t, l...), true)
	mustSame(t, way, way, true)
	mustSame(t, way, way.Copy(), true)
	for way.Len() > 0 {
		way.Take()
	}
	mustSame(t, way, heap.New(), true)
	mustSame(t, way, &heap.Heap{}, true)
}

func TestSameOfHeapsThatPartInOneItem(t *testing.T) {
	l := row(9)
	for i := range l {
		for part := range 7 {
			other := slices.Clone(l)
			x := &other[i]
			switch part {
			case 0:
				x.Time++
			case 1:
				x.Origin += 10
			case 2:
				x.Seq++
			case 3:
				x.To++
			case 4:
				x.Kind++
			case 5:
				x.Data++
			case 6:
				x.Serial += 100
			}
			mustSame(t, of(t, l...), of(t, other...), false)
		}
		mustSame(t, of(t, l...), of(t, slices.Delete(slices.Clone(l), i, i+1)...), false)
		mustSame(t, of(t, l...), of(t, append(slices.Clone(l), item(int64(i), 9, 9, 9))...), false)
	}
}

func TestSameOfNilAndNone(t *testing.T) {
	var none *heap.Heap
	mustSame(t, none, nil, true)
	mustSame(t, none, heap.New(), false)
	mustSame(t, none, &heap.Heap{}, false)
	mustSame(t, none, of(t, row(1)...), false)
	mustSame(t, heap.New(), heap.New(), true)
	mustSame(t, heap.New(), &heap.Heap{}, true)
	mustSame(t, heap.New(), of(t, row(1)...), false)
	mustSame(t, heap.New(), of(t, api.Item{}), false)
}

func TestSameChangesNothing(t *testing.T) {
	a, b := of(t, row(9)...), of(t, row(8)...)
	mustSame(t, a, b, false)
	mustSame(t, a, nil, false)
	mustHave(t, a, row(9)...)
	mustHave(t, b, row(8)...)
}

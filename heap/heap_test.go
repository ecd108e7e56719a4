package heap_test

import (
	"math"
	"math/rand"
	"slices"
	"testing"

	"riffle/api"
	"riffle/heap"
)

func item(time int64, origin int, seq, serial int64) api.Item {
	return api.Item{Event: api.Event{Key: api.Key{Time: time, Origin: origin, Seq: seq}, To: 1, Kind: 2, Data: 3}, Serial: serial}
}

// byWords is how the chapter orders items: times, then origins, then Seqs, then Serials.
func byWords(a, b api.Item) int {
	for _, pair := range [][2]int64{{a.Time, b.Time}, {int64(a.Origin), int64(b.Origin)}, {a.Seq, b.Seq}, {a.Serial, b.Serial}} {
		if pair[0] < pair[1] {
			return -1
		}
		if pair[0] > pair[1] {
			return 1
		}
	}
	return 0
}

func inOrder(l []api.Item) []api.Item {
	l = slices.Clone(l)
	slices.SortFunc(l, byWords)
	return l
}

// row has items of times 0, 10, 20, .., each of one of three origins; their names and their order have nothing to do with one another.
func row(n int) []api.Item {
	var l []api.Item
	for i := range n {
		l = append(l, item(int64(10*i), 1+i%3, int64(i), int64(5000-i)))
	}
	return l
}

func shuffled(l []api.Item, seed int64) []api.Item {
	l = slices.Clone(l)
	rand.New(rand.NewSource(seed)).Shuffle(len(l), func(i, j int) { l[i], l[j] = l[j], l[i] })
	return l
}

func of(t *testing.T, l ...api.Item) *heap.Heap {
	t.Helper()
	h := heap.New()
	if h == nil {
		t.Fatal("New is nil")
	}
	for _, x := range l {
		mustPut(t, h, x, api.OK)
	}
	return h
}

func mustPut(t *testing.T, h *heap.Heap, x api.Item, want api.Errno) {
	t.Helper()
	if err := h.Put(x); err != want {
		t.Fatalf("Put of %+v: %v, want %v", x, err, want)
	}
}

func mustBe(t *testing.T, call string, x api.Item, ok bool, want api.Item, there bool) {
	t.Helper()
	if x != want || ok != there {
		t.Fatalf("%s: %+v, %v, want %+v, %v", call, x, ok, want, there)
	}
}

func mustTake(t *testing.T, h *heap.Heap, want api.Item) {
	t.Helper()
	x, ok := h.Take()
	mustBe(t, "Take", x, ok, want, true)
}

func mustDrop(t *testing.T, h *heap.Heap, want api.Item) {
	t.Helper()
	x, ok := h.Drop(want.Origin, want.Serial)
	mustBe(t, "Drop", x, ok, want, true)
}

func mustNotDrop(t *testing.T, h *heap.Heap, origin int, serial int64) {
	t.Helper()
	x, ok := h.Drop(origin, serial)
	mustBe(t, "Drop", x, ok, api.Item{}, false)
}

// mustHave asks for just these items, by all calls that change nothing.
func mustHave(t *testing.T, h *heap.Heap, l ...api.Item) {
	t.Helper()
	l = inOrder(l)
	if n := h.Len(); n != len(l) {
		t.Fatalf("Len: %d, want %d", n, len(l))
	}
	if all := slices.Collect(h.All()); !slices.Equal(all, l) {
		t.Fatalf("All: %+v, want %+v", all, l)
	}
	var first, last api.Item
	if len(l) > 0 {
		first, last = l[0], l[len(l)-1]
	}
	x, ok := h.Least()
	mustBe(t, "Least", x, ok, first, len(l) > 0)
	x, ok = h.Most()
	mustBe(t, "Most", x, ok, last, len(l) > 0)
	for _, x := range l {
		mustKnow(t, h, x.Origin, x.Serial, true)
	}
}

func mustKnow(t *testing.T, h *heap.Heap, origin int, serial int64, want bool) {
	t.Helper()
	if has := h.Has(origin, serial); has != want {
		t.Fatalf("Has %d, %d: %v", origin, serial, has)
	}
}

// P5.1

func TestExample(t *testing.T) {
	seven := item(7, 1, 0, 4)
	three, nine := item(3, 2, 0, 4), item(9, 2, 1, 5)
	h := of(t, seven, three, nine)
	x, ok := h.Least()
	mustBe(t, "Least", x, ok, three, true)
	x, ok = h.Most()
	mustBe(t, "Most", x, ok, nine, true)
	x, ok = h.Drop(1, 4)
	mustBe(t, "Drop", x, ok, seven, true)
	mustTake(t, h, three)
	mustHave(t, h, nine)
}

func TestNewIsWithoutItems(t *testing.T) {
	mustHave(t, of(t))
	a, b := of(t), of(t)
	mustPut(t, a, item(1, 1, 1, 1), api.OK)
	mustHave(t, b)
}

func TestZeroHeapIsANewOne(t *testing.T) {
	x := item(1, 1, 1, 1)
	mustHave(t, &heap.Heap{})
	mustKnow(t, &heap.Heap{}, 0, 0, false)
	mustNotDrop(t, &heap.Heap{}, 0, 0)
	y, ok := (&heap.Heap{}).Take()
	mustBe(t, "Take", y, ok, api.Item{}, false)
	var h, g heap.Heap
	mustPut(t, &h, x, api.OK)
	mustHave(t, &h, x)
	mustHave(t, &g)
	c := g.Copy()
	if c == nil {
		t.Fatal("a zero heap's copy is nil")
	}
	mustPut(t, c, x, api.OK)
	mustHave(t, c, x)
	mustHave(t, &g)
	if !g.Same(heap.New()) || !heap.New().Same(&g) || !h.Same(c) {
		t.Error("a zero heap is not as a new one")
	}
}

func TestNilHeap(t *testing.T) {
	var h *heap.Heap
	mustPut(t, h, item(1, 1, 1, 1), api.ErrNil)
	mustPut(t, h, api.Item{}, api.ErrNil)
	mustHave(t, h)
	mustKnow(t, h, 0, 0, false)
	mustNotDrop(t, h, 0, 0)
	mustNotDrop(t, h, 1, 1)
	x, ok := h.Take()
	mustBe(t, "Take", x, ok, api.Item{}, false)
	if h.Copy() != nil {
		t.Error("a copy of nil")
	}
	if !h.Same(nil) {
		t.Error("nil is not the same as nil")
	}
	if h.Same(heap.New()) || heap.New().Same(h) || h.Same(&heap.Heap{}) || of(t, item(1, 1, 1, 1)).Same(nil) {
		t.Error("nil is the same as another one")
	}
}

func TestPutInEachOrder(t *testing.T) {
	l := row(6)
	var put func(got, left []api.Item)
	put = func(got, left []api.Item) {
		if len(left) == 0 {
			mustHave(t, of(t, got...), got...)
		}
		for i := range left {
			put(append(slices.Clone(got), left[i]), slices.Delete(slices.Clone(left), i, i+1))
		}
	}
	put(nil, l)
}

func TestPutOneByOne(t *testing.T) {
	for seed := range int64(5) {
		l := shuffled(row(60), seed)
		h := of(t)
		for i, x := range l {
			mustKnow(t, h, x.Origin, x.Serial, false)
			mustPut(t, h, x, api.OK)
			mustHave(t, h, l[:i+1]...)
		}
	}
}

func TestPutOfItemsOfAnyKind(t *testing.T) {
	l := []api.Item{
		{},
		item(math.MinInt64, math.MinInt, math.MinInt64, math.MinInt64),
		item(math.MaxInt64, math.MaxInt, math.MaxInt64, math.MaxInt64),
		item(math.MaxInt64, math.MinInt, math.MaxInt64, math.MaxInt64),
		item(math.MinInt64, math.MaxInt, math.MinInt64, math.MinInt64),
		item(-1, -1, -1, -1),
		item(api.MaxTime+1, api.Outside+1, api.MaxSeq+1, -5),
		{Event: api.Event{Key: api.Key{Time: 4, Origin: 4}, To: math.MinInt, Kind: math.MaxInt, Data: math.MinInt64}},
	}
	for seed := range int64(10) {
		h := of(t, shuffled(l, seed)...)
		mustHave(t, h, l...)
		for _, x := range l {
			mustPut(t, h, x, api.ErrTwice)
			mustDrop(t, h, x)
			mustKnow(t, h, x.Origin, x.Serial, false)
			mustPut(t, h, x, api.OK)
		}
		for _, x := range inOrder(l) {
			mustTake(t, h, x)
		}
	}
}

func TestNamesAreOriginsAndSerials(t *testing.T) {
	origins := []int{math.MinInt, -1, 0, 1, 2, 1 << 32, math.MaxInt}
	serials := []int64{math.MinInt64, -1, 0, 1, 2, 1 << 32, math.MaxInt64}
	h := of(t)
	var l []api.Item
	for _, origin := range origins {
		for _, serial := range serials {
			mustKnow(t, h, origin, serial, false)
			l = append(l, item(7, origin, 7, serial))
			mustPut(t, h, l[len(l)-1], api.OK)
			mustKnow(t, h, origin, serial, true)
		}
	}
	mustHave(t, h, l...)
	for i, x := range l {
		mustDrop(t, h, x)
		mustHave(t, h, l[i+1:]...)
	}
}

func TestSeqIsNotOfTheName(t *testing.T) {
	x := item(5, 1, 8, 3)
	h := of(t, x)
	mustKnow(t, h, 1, 8, false)
	mustNotDrop(t, h, 1, 8)
	mustPut(t, h, item(5, 1, 8, 4), api.OK)
	mustPut(t, h, item(5, 1, 9, 4), api.ErrTwice)
	mustHave(t, h, x, item(5, 1, 8, 4))
}

func TestPutTwice(t *testing.T) {
	x := item(5, 1, 8, 3)
	h := of(t, item(4, 1, 8, 2), x, item(6, 2, 8, 3))
	twice := []api.Item{x, item(9, 1, 8, 3), item(5, 1, 9, 3), item(0, 1, 0, 3)}
	twice = append(twice, x, x, x)
	twice[4].To, twice[5].Kind, twice[6].Data = 9, 9, 9
	for _, y := range twice {
		mustPut(t, h, y, api.ErrTwice)
		mustHave(t, h, item(4, 1, 8, 2), x, item(6, 2, 8, 3))
	}
}

func TestPutOfMaxEventsAndOneMore(t *testing.T) {
	l := shuffled(row(api.MaxEvents), 1)
	h := of(t, l...)
	mustHave(t, h, l...)
	more := item(3, 1, 1, -1)
	mustPut(t, h, more, api.ErrFull)
	mustPut(t, h, item(-1, -1, -1, -1), api.ErrFull)
	mustKnow(t, h, 1, -1, false)
	mustHave(t, h, l...)
	first := inOrder(l)[0]
	mustTake(t, h, first)
	mustPut(t, h, more, api.OK)
	mustPut(t, h, first, api.ErrFull)
	mustDrop(t, h, l[500])
	mustPut(t, h, first, api.OK)
	mustPut(t, h, l[500], api.ErrFull)
	mustDrop(t, h, more)
	mustPut(t, h, l[500], api.OK)
	mustHave(t, h, l...)
}

func TestTwiceIsToldAheadOfFull(t *testing.T) {
	l := row(api.MaxEvents)
	h := of(t, l...)
	for _, x := range l {
		x.Time, x.Seq, x.Data = -x.Time, 9, 9
		mustPut(t, h, x, api.ErrTwice)
	}
	mustHave(t, h, l...)
	mustPut(t, h, item(0, 9, 9, 9), api.ErrFull)
}

func TestRefusedPutsTakeNoRoom(t *testing.T) {
	l := row(api.MaxEvents)
	h := of(t, l[:api.MaxEvents-1]...)
	for range 10 {
		mustPut(t, h, l[3], api.ErrTwice)
	}
	mustPut(t, h, l[api.MaxEvents-1], api.OK)
	for range 10 {
		mustPut(t, h, item(0, 9, 9, 9), api.ErrFull)
	}
	for _, x := range l {
		mustTake(t, h, x)
	}
	mustPut(t, h, item(0, 9, 9, 9), api.OK)
	mustHave(t, h, item(0, 9, 9, 9))
}

package heap_test

import (
	"slices"
	"testing"

	"riffle/api"
	"riffle/heap"
)

// P5.2

func TestLeastAndMostTakeNothingAway(t *testing.T) {
	l := shuffled(row(20), 2)
	h := of(t, l...)
	for range 30 {
		x, ok := h.Least()
		mustBe(t, "Least", x, ok, row(20)[0], true)
		x, ok = h.Most()
		mustBe(t, "Most", x, ok, row(20)[19], true)
	}
	mustHave(t, h, l...)
}

func TestLeastAndMostOfOne(t *testing.T) {
	x := item(5, 1, 8, 3)
	h := of(t, x)
	mustHave(t, h, x)
	mustTake(t, h, x)
	mustHave(t, h)
}

func TestMostOfEachNumberOfItems(t *testing.T) {
	for seed := range int64(20) {
		l := shuffled(row(40), seed)
		for n := range len(l) {
			mustHave(t, of(t, l[:n]...), l[:n]...)
		}
	}
}

func TestTakeOfNone(t *testing.T) {
	h := of(t)
	for range 3 {
		x, ok := h.Take()
		mustBe(t, "Take", x, ok, api.Item{}, false)
		mustHave(t, h)
	}
	mustPut(t, h, item(5, 1, 8, 3), api.OK)
	mustTake(t, h, item(5, 1, 8, 3))
	x, ok := h.Take()
	mustBe(t, "Take", x, ok, api.Item{}, false)
	mustHave(t, h)
}

func TestTakeInTheirOrder(t *testing.T) {
	for seed := range int64(5) {
		h := of(t, shuffled(row(60), seed)...)
		for left := row(60); len(left) > 0; left = left[1:] {
			mustHave(t, h, left...)
			mustTake(t, h, left[0])
			mustKnow(t, h, left[0].Origin, left[0].Serial, false)
		}
		mustHave(t, h)
	}
}

// ties are items whose keys part late or not at all, in their order.
func ties() []api.Item {
	return []api.Item{
		item(4, 9, 9, 9),
		item(5, 1, 1, -7), item(5, 1, 1, 2), item(5, 1, 1, 3), item(5, 1, 1, 10), item(5, 1, 2, 1),
		item(5, 2, 0, 0), item(5, 2, 0, 1), item(5, 2, 1, -1),
		item(5, 3, -1, 2), item(5, 4, -2, 2),
		item(6, 0, 0, 0),
	}
}

func TestItemsOfOneKeyComeByTheirSerials(t *testing.T) {
	for seed := range int64(50) {
		h := of(t, shuffled(ties(), seed)...)
		mustHave(t, h, ties()...)
		for _, x := range ties() {
			mustTake(t, h, x)
		}
	}
}

func TestMostOfOneKeyIsOfTheGreatestSerial(t *testing.T) {
	for seed := range int64(50) {
		h := of(t, shuffled(ties(), seed)...)
		for left := ties(); len(left) > 0; left = left[:len(left)-1] {
			x, ok := h.Most()
			mustBe(t, "Most", x, ok, left[len(left)-1], true)
			mustDrop(t, h, x)
		}
	}
}

func TestToAndKindAndDataDoNotOrder(t *testing.T) {
	a, b, c := item(5, 1, 1, 1), item(5, 1, 1, 2), item(5, 1, 1, 3)
	a.To, a.Kind, a.Data = 9, 9, 9
	b.To, b.Kind, b.Data = 5, 1, 12
	c.To, c.Kind, c.Data = 1, 3, -4
	h := of(t, c, a, b)
	for _, x := range []api.Item{a, b, c} {
		mustTake(t, h, x)
	}
}

func TestDropOfEach(t *testing.T) {
	for _, n := range []int{1, 2, 3, 4, 7, 8, 15, 16, 33} {
		for i := range n {
			for seed := range int64(5) {
				l := shuffled(row(n), seed)
				h := of(t, l...)
				mustDrop(t, h, l[i])
				mustKnow(t, h, l[i].Origin, l[i].Serial, false)
				left := slices.Delete(slices.Clone(l), i, i+1)
				mustHave(t, h, left...)
				mustNotDrop(t, h, l[i].Origin, l[i].Serial)
				mustHave(t, h, left...)
				for _, x := range inOrder(left) {
					mustTake(t, h, x)
				}
			}
		}
	}
}

// What comes to the place of what is dropped may belong ahead of its parents there.
func TestDropWhereTheLastOneRises(t *testing.T) {
	times := []int64{0, 100, 1, 101, 102, 2, 3, 103, 104, 105, 106, 4, 5, 6, 7}
	for i := range times {
		h := heap.New()
		var l []api.Item
		for k, time := range times {
			l = append(l, item(time, 1, 0, int64(k)))
			mustPut(t, h, l[k], api.OK)
		}
		mustDrop(t, h, l[i])
		mustHave(t, h, slices.Delete(l, i, i+1)...)
	}
}

func TestDropOfFirstAndLast(t *testing.T) {
	h := of(t, shuffled(row(9), 3)...)
	l := row(9)
	mustDrop(t, h, l[0])
	mustHave(t, h, l[1:]...)
	mustDrop(t, h, l[8])
	mustHave(t, h, l[1:8]...)
	mustTake(t, h, l[1])
	mustHave(t, h, l[2:8]...)
}

func TestDropOfAll(t *testing.T) {
	for seed := range int64(5) {
		h := of(t, shuffled(row(40), seed)...)
		order := shuffled(row(40), seed+100)
		for i, x := range order {
			mustDrop(t, h, x)
			mustHave(t, h, order[i+1:]...)
		}
		mustNotDrop(t, h, 1, 5000)
	}
}

func TestDropOfWhatWasNeverThere(t *testing.T) {
	l := row(9)
	h := of(t, l...)
	mustNotDrop(t, h, 9, 5000)
	mustNotDrop(t, h, 1, 4999)
	mustNotDrop(t, h, -1, -5000)
	mustNotDrop(t, h, 5000, 1)
	mustNotDrop(t, h, 0, 0)
	mustHave(t, h, l...)
	mustNotDrop(t, of(t), 0, 0)
}

func TestDropOfWhatWasTaken(t *testing.T) {
	l := row(9)
	h := of(t, l...)
	mustTake(t, h, l[0])
	mustNotDrop(t, h, l[0].Origin, l[0].Serial)
	mustHave(t, h, l[1:]...)
}

func TestPutAgain(t *testing.T) {
	l := row(9)
	h := of(t, l...)
	mustDrop(t, h, l[4])
	again := l[4]
	again.Time, again.Data = 1000, 77
	mustPut(t, h, again, api.OK)
	mustPut(t, h, l[4], api.ErrTwice)
	l[4] = again
	mustHave(t, h, l...)
	first := l[0]
	mustTake(t, h, first)
	first.Time = 2000
	mustPut(t, h, first, api.OK)
	l[0] = first
	mustHave(t, h, l...)
	mustDrop(t, h, first)
	mustPut(t, h, first, api.OK)
	mustHave(t, h, l...)
}

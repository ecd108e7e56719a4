package heap_test

import (
	"math/rand"
	"slices"
	"testing"

	"riffle/api"
	"riffle/heap"
)

// P5.4

func TestWhatWasPutIsTakenOnceInOrder(t *testing.T) {
	for seed := range int64(20) {
		r := rand.New(rand.NewSource(seed))
		h := heap.New()
		var left []api.Item
		names := map[[2]int64]bool{}
		for h.Len() < 1+r.Intn(api.MaxEvents) {
			x := item(r.Int63n(30), r.Intn(5), r.Int63n(5), r.Int63n(1000))
			twice := names[[2]int64{int64(x.Origin), x.Serial}]
			if (h.Put(x) == api.ErrTwice) != twice {
				t.Fatalf("%+v: there already: %v", x, twice)
			}
			if !twice {
				names[[2]int64{int64(x.Origin), x.Serial}] = true
				left = append(left, x)
			}
		}
		for range len(left) / 3 {
			i := r.Intn(len(left))
			mustDrop(t, h, left[i])
			left = slices.Delete(left, i, i+1)
		}
		for _, x := range inOrder(left) {
			mustTake(t, h, x)
		}
		mustHave(t, h)
	}
}

// slow is a heap as its words tell it: a list, looked through from its beginning.
type slow []api.Item

func (s slow) find(origin int, serial int64) int {
	return slices.IndexFunc(s, func(x api.Item) bool { return x.Origin == origin && x.Serial == serial })
}

func (s *slow) put(x api.Item) api.Errno {
	if s.find(x.Origin, x.Serial) >= 0 {
		return api.ErrTwice
	}
	if len(*s) == api.MaxEvents {
		return api.ErrFull
	}
	*s = inOrder(append(*s, x))
	return api.OK
}

func (s *slow) takeAt(i int) (api.Item, bool) {
	if i < 0 || i >= len(*s) {
		return api.Item{}, false
	}
	x := (*s)[i]
	*s = slices.Delete(slices.Clone(*s), i, i+1)
	return x, true
}

// goOn does something by chance to both, and asks whether they answer the same.
func goOn(t *testing.T, r *rand.Rand, h *heap.Heap, s *slow, rising bool) {
	t.Helper()
	x := item(r.Int63n(20), r.Intn(4)-1, r.Int63n(4), r.Int63n(600)-300)
	n := r.Intn(10)
	if rising && n > 0 {
		n = 9
	}
	switch {
	case n < 2:
		got, ok := h.Take()
		want, there := s.takeAt(0)
		mustBe(t, "Take", got, ok, want, there)
	case n < 5:
		got, ok := h.Drop(x.Origin, x.Serial)
		want, there := s.takeAt(s.find(x.Origin, x.Serial))
		mustBe(t, "Drop", got, ok, want, there)
	default:
		mustPut(t, h, x, s.put(x))
	}
	mustKnow(t, h, x.Origin, x.Serial, s.find(x.Origin, x.Serial) >= 0)
}

func TestManyCallsByChance(t *testing.T) {
	for seed := range int64(8) {
		r := rand.New(rand.NewSource(seed))
		h, s := heap.New(), &slow{}
		for i := range 3000 {
			goOn(t, r, h, s, i%1500 < 700)
			if i%50 == 0 {
				mustHave(t, h, *s...)
			}
			if r.Intn(200) == 0 {
				c, was := h.Copy(), slices.Clone(*s)
				for range 20 {
					goOn(t, r, h, s, false)
				}
				mustHave(t, c, was...)
				mustSame(t, c, of(t, was...), true)
			}
		}
		mustHave(t, h, *s...)
		for _, x := range *s {
			mustTake(t, h, x)
		}
	}
}

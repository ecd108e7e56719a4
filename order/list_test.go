package order_test

import (
	"math"
	"math/rand"
	"slices"
	"testing"

	"riffle/api"
	"riffle/order"
)

// event has a mark as its datum, by which events of one key are told from one another.
func event(k api.Key, mark int) api.Event {
	return api.Event{Key: k, To: 1 + mark%3, Kind: mark % 5, Data: int64(mark)}
}

// drawn are n events with keys of these.
func drawn(r *rand.Rand, keys []api.Key, n int) []api.Event {
	var l []api.Event
	for mark := range n {
		l = append(l, event(keys[r.Intn(len(keys))], mark))
	}
	return l
}

// byWords gathers the events of each of these keys, which rise, in turn.
func byWords(rising []api.Key, l []api.Event) []api.Event {
	of := map[api.Key][]api.Event{}
	for _, e := range l {
		of[e.Key] = append(of[e.Key], e)
	}
	var sorted []api.Event
	for _, k := range rising {
		sorted = append(sorted, of[k]...)
	}
	return sorted
}

func mustSort(t *testing.T, l, want []api.Event) {
	t.Helper()
	was := slices.Clone(l)
	if s := order.Sorted(l...); !slices.Equal(s, want) {
		t.Errorf("%v: %v, want %v", was, s, want)
	}
	if !slices.Equal(l, was) {
		t.Errorf("%v was changed to %v", was, l)
	}
}

// P4.3

func TestSortedOfTheExample(t *testing.T) {
	a, b, c := event(key(5, 2, 0), 1), event(key(5, 1, 9), 2), event(key(4, 3, 3), 3)
	for _, l := range [][]api.Event{{a, b, c}, {a, c, b}, {b, a, c}, {b, c, a}, {c, a, b}, {c, b, a}} {
		mustSort(t, l, []api.Event{c, b, a})
	}
}

func TestSortedOfNoneAndOne(t *testing.T) {
	mustSort(t, nil, nil)
	mustSort(t, []api.Event{}, nil)
	if s := order.Sorted(); len(s) != 0 {
		t.Errorf("none: %v", s)
	}
	for _, k := range keys() {
		mustSort(t, []api.Event{event(k, 7)}, []api.Event{event(k, 7)})
	}
}

func TestSortedOfFew(t *testing.T) {
	rising := []api.Key{key(math.MinInt64, 0, 0), key(5, 1, 8), key(5, 1, 9), key(5, 2, 0), key(6, 0, math.MinInt64)}
	for n := range 6 {
		for draw := range pow(len(rising), n) {
			var l []api.Event
			for mark := range n {
				l = append(l, event(rising[draw%len(rising)], mark))
				draw /= len(rising)
			}
			mustSort(t, l, byWords(rising, l))
		}
	}
}

func pow(base, n int) int {
	p := 1
	for range n {
		p *= base
	}
	return p
}

func TestSortedOfMany(t *testing.T) {
	r := rand.New(rand.NewSource(1))
	rising := keys()
	for n := range 200 {
		for _, some := range [][]api.Key{rising, rising[:2], rising[360:369], rising[len(rising)-20:]} {
			l := drawn(r, some, n)
			mustSort(t, l, byWords(rising, l))
		}
	}
	l := drawn(r, rising, 20000)
	mustSort(t, l, byWords(rising, l))
}

func TestSortedOfManyInOrderAndBackwards(t *testing.T) {
	rising := keys()
	var l []api.Event
	for mark, k := range rising {
		l = append(l, event(k, mark))
	}
	mustSort(t, l, l)
	back := slices.Clone(l)
	slices.Reverse(back)
	mustSort(t, back, l)
}

func TestSortedKeepsEventsOfOneKeyAsHandedIn(t *testing.T) {
	one := key(5, 2, 9)
	for _, n := range []int{2, 3, 11, 12, 13, 20, 21, 50, 500, 5000} {
		var l []api.Event
		for mark := range n {
			l = append(l, event(one, n-mark))
		}
		mustSort(t, l, l)
	}
	same := event(one, 4)
	mustSort(t, []api.Event{same, same, same}, []api.Event{same, same, same})
}

func TestSortedKeepsWholeEvents(t *testing.T) {
	a := api.Event{Key: key(-3, 18, -7), To: -5, Kind: 99, Data: math.MinInt64}
	b := api.Event{Key: key(math.MaxInt64, -1, math.MaxInt64), To: math.MaxInt, Kind: math.MinInt, Data: math.MaxInt64}
	mustSort(t, []api.Event{b, a, b}, []api.Event{a, b, b})
}

func TestSortedSharesNothing(t *testing.T) {
	for _, n := range []int{1, 2, 3, 30} {
		for _, back := range []bool{false, true} {
			whole := make([]api.Event, n+5)
			for i := range whole {
				whole[i] = event(key(int64(i), 0, 0), i)
			}
			if back {
				slices.Reverse(whole[:n])
			}
			was := slices.Clone(whole)
			s := order.Sorted(whole[:n]...)
			want := slices.Clone(s)
			clear(append(s, make([]api.Event, 5)...))
			clear(s)
			if !slices.Equal(whole, was) {
				t.Errorf("%d handed in were changed through the answer to %v", n, whole)
			}
			s = order.Sorted(whole[:n]...)
			clear(whole)
			if !slices.Equal(s, want) {
				t.Errorf("an answer of %d changed to %v", n, s)
			}
		}
	}
}

func mustRise(t *testing.T, l []api.Key, want bool) {
	t.Helper()
	was := slices.Clone(l)
	if rising := order.Rising(l...); rising != want {
		t.Errorf("%v: %v", l, rising)
	}
	if !slices.Equal(l, was) {
		t.Errorf("%v was changed to %v", was, l)
	}
}

func TestRisingOfTheExample(t *testing.T) {
	a, b, c := key(5, 2, 0), key(5, 1, 9), key(4, 3, 3)
	mustRise(t, []api.Key{c, b, a}, true)
	for _, l := range [][]api.Key{{a, b, c}, {a, c, b}, {b, a, c}, {b, c, a}, {c, a, b}} {
		mustRise(t, l, false)
	}
}

func TestRisingOfNoneAndOne(t *testing.T) {
	mustRise(t, nil, true)
	mustRise(t, []api.Key{}, true)
	if !order.Rising() {
		t.Error("none do not rise")
	}
	for _, k := range keys() {
		mustRise(t, []api.Key{k}, true)
	}
}

func TestRisingOfTwo(t *testing.T) {
	l := keys()
	for i, a := range l {
		for j, b := range l {
			if order.Rising(a, b) != (i < j) {
				t.Fatalf("%v, %v: %v", a, b, i >= j)
			}
		}
	}
}

func TestRisingOfManyButAtOnePlace(t *testing.T) {
	l := keys()[300:340]
	for n := 2; n <= len(l); n++ {
		mustRise(t, l[:n], true)
		for at := 1; at < n; at++ {
			same := slices.Clone(l[:n])
			same[at] = same[at-1]
			mustRise(t, same, false)
			swapped := slices.Clone(l[:n])
			swapped[at-1], swapped[at] = swapped[at], swapped[at-1]
			mustRise(t, swapped, false)
		}
	}
	mustRise(t, keys(), true)
}

func TestRisingUpToMax(t *testing.T) {
	var l []api.Key
	for _, k := range keys() {
		if order.May(api.Event{Key: k, To: 1}, 1) {
			l = append(l, k)
		}
	}
	mustRise(t, append(l, order.Max()), true)
	mustRise(t, append(l, order.Max(), order.Max()), false)
	mustRise(t, append(l, order.Max(), l[0]), false)
}

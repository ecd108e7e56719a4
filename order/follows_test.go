package order_test

import (
	"math"
	"math/rand"
	"testing"

	"riffle/api"
	"riffle/order"
)

// few are keys, few enough that any three of them can be tried.
func few() []api.Key {
	var l []api.Key
	for _, time := range []int64{math.MinInt64, 0, math.MaxInt64} {
		for _, origin := range []int{math.MinInt, 1, math.MaxInt} {
			for _, seq := range []int64{math.MinInt64, -1, api.MaxSeq, math.MaxInt64} {
				l = append(l, key(time, origin, seq))
			}
		}
	}
	return l
}

func randomKey(r *rand.Rand) api.Key {
	number := func() int64 { return int64(r.Uint64()) >> r.Intn(64) }
	return key(number(), int(number()), number())
}

// mustBeAnOrder asks of two keys that just one holds: a is ahead, b is ahead, they are the same.
func mustBeAnOrder(t *testing.T, a, b api.Key) {
	t.Helper()
	ahead, behind, same := order.Compare(a, b) == -1, order.Compare(a, b) == 1, order.Compare(a, b) == 0
	if ahead != order.Less(a, b) || behind != order.Less(b, a) || same != (a == b) {
		t.Fatalf("%v and %v: Compare %d, Less %v, and back %v", a, b, order.Compare(a, b), order.Less(a, b), order.Less(b, a))
	}
	if order.Compare(b, a) != -order.Compare(a, b) {
		t.Fatalf("%v and %v: %d, and back %d", a, b, order.Compare(a, b), order.Compare(b, a))
	}
}

// mustGoOn asks that what is ahead of one key is ahead of what that one is ahead of.
func mustGoOn(t *testing.T, a, b, c api.Key) {
	t.Helper()
	if order.Less(a, b) && order.Less(b, c) && !order.Less(a, c) {
		t.Fatalf("%v, %v, %v: ahead does not go on", a, b, c)
	}
	if order.Compare(a, b) <= 0 && order.Compare(b, c) <= 0 && order.Compare(a, c) > 0 {
		t.Fatalf("%v, %v, %v: not behind does not go on", a, b, c)
	}
}

// P4.4

func TestItIsAnOrderOfAllThrees(t *testing.T) {
	for _, a := range few() {
		for _, b := range few() {
			mustBeAnOrder(t, a, b)
			for _, c := range few() {
				mustGoOn(t, a, b, c)
			}
		}
	}
}

func TestItIsAnOrderOfKeysByChance(t *testing.T) {
	r := rand.New(rand.NewSource(2))
	for range 100000 {
		a, b, c := randomKey(r), randomKey(r), randomKey(r)
		if r.Intn(2) == 0 {
			b.Time, c.Time = a.Time, a.Time
		}
		if r.Intn(2) == 0 {
			b.Origin, c.Origin = a.Origin, a.Origin
		}
		if r.Intn(4) == 0 {
			b.Seq = a.Seq
		}
		for _, l := range [][3]api.Key{{a, b, c}, {a, c, b}, {b, a, c}, {b, c, a}, {c, a, b}, {c, b, a}} {
			mustBeAnOrder(t, l[0], l[1])
			mustGoOn(t, l[0], l[1], l[2])
		}
	}
}

func TestWhatIsSortedRisesWhereNoTwoKeysAreTheSame(t *testing.T) {
	r := rand.New(rand.NewSource(3))
	for n := range 60 {
		for range 20 {
			l := drawn(r, few(), n)
			s := order.Sorted(l...)
			var sorted []api.Key
			seen, twice := map[api.Key]int{}, false
			for i, e := range s {
				sorted = append(sorted, e.Key)
				seen[e.Key]++
				twice = twice || seen[e.Key] > 1
				if i > 0 && order.ByKey(s[i-1], e) > 0 {
					t.Fatalf("%v: %v does not come ahead of %v", l, s[i-1], e)
				}
			}
			mustRise(t, sorted, !twice)
		}
	}
}

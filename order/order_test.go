package order_test

import (
	"cmp"
	"math"
	"testing"

	"riffle/api"
	"riffle/order"
)

func key(time int64, origin int, seq int64) api.Key {
	return api.Key{Time: time, Origin: origin, Seq: seq}
}

// times, origins and seqs rise; at all edges, those that no event may have among them.
var (
	times   = []int64{math.MinInt64, -1, 0, 1, 1 << 32, api.MaxTime - 1, api.MaxTime, api.MaxTime + 1, math.MaxInt64}
	origins = []int{math.MinInt, -1, 0, 1, api.MaxProcs, api.Outside, api.Outside + 1, 1 << 32, math.MaxInt}
	seqs    = []int64{math.MinInt64, -1, 0, 1, 1 << 32, api.MaxSeq - 1, api.MaxSeq, api.MaxSeq + 1, math.MaxInt64}
)

// keys are all of these times, origins and seqs, in their order: times first, then origins, then seqs.
func keys() []api.Key {
	var l []api.Key
	for _, time := range times {
		for _, origin := range origins {
			for _, seq := range seqs {
				l = append(l, key(time, origin, seq))
			}
		}
	}
	return l
}

func mustCompare(t *testing.T, a, b api.Key, want int) {
	t.Helper()
	if c := order.Compare(a, b); c != want {
		t.Errorf("Compare of %v and %v: %d, want %d", a, b, c, want)
	}
	if less := order.Less(a, b); less != (want < 0) {
		t.Errorf("Less of %v and %v: %v", a, b, less)
	}
}

// P4.1

func TestCompareAndLessOfTheExample(t *testing.T) {
	mustCompare(t, key(4, 3, 3), key(5, 1, 9), -1)
	mustCompare(t, key(5, 1, 9), key(5, 2, 0), -1)
	mustCompare(t, key(4, 3, 3), key(5, 2, 0), -1)
	mustCompare(t, key(5, 2, 0), key(5, 1, 9), 1)
	mustCompare(t, key(5, 1, 9), key(4, 3, 3), 1)
	mustCompare(t, key(5, 1, 9), key(5, 1, 9), 0)
}

func TestCompareAndLessOfAllPairs(t *testing.T) {
	l := keys()
	for i, a := range l {
		for j, b := range l {
			mustCompare(t, a, b, cmp.Compare(i, j))
		}
		if t.Failed() {
			return
		}
	}
}

func TestCompareAndLessOfKeysThatPartInOneBit(t *testing.T) {
	for _, a := range []api.Key{{}, key(5, 1, 9), key(-1, -1, -1), key(api.MaxTime, api.Outside, api.MaxSeq)} {
		for bit := range 64 {
			b := a
			b.Time ^= 1 << bit
			mustCompare(t, a, b, cmp.Compare(a.Time, b.Time))
			b = a
			b.Origin ^= 1 << bit
			mustCompare(t, a, b, cmp.Compare(a.Origin, b.Origin))
			b = a
			b.Seq ^= 1 << bit
			mustCompare(t, a, b, cmp.Compare(a.Seq, b.Seq))
		}
	}
}

func TestByKeyIsCompareOfKeysAlone(t *testing.T) {
	l := []api.Key{key(math.MinInt64, 3, 3), key(4, 3, 3), key(5, 1, 8), key(5, 1, 9), key(5, 2, math.MinInt64), key(5, 2, 0), key(math.MaxInt64, 0, 0)}
	others := []api.Event{{}, {To: 1, Kind: 7, Data: math.MinInt64}, {To: 16, Kind: -1, Data: math.MaxInt64}, {To: math.MinInt, Kind: math.MaxInt, Data: 1}}
	for i, a := range l {
		for j, b := range l {
			for _, x := range others {
				for _, y := range others {
					x.Key, y.Key = a, b
					if c, want := order.ByKey(x, y), cmp.Compare(i, j); c != want {
						t.Errorf("%v and %v: %d, want %d", x, y, c, want)
					}
				}
			}
		}
	}
}

// P4.2

func TestMax(t *testing.T) {
	if m, want := order.Max(), key(1<<40+1, 0, 0); m != want {
		t.Errorf("%v, want %v", m, want)
	}
}

func TestMaxComesBehindAllEventsThatMayBe(t *testing.T) {
	seen := 0
	for _, k := range keys() {
		if order.May(api.Event{Key: k, To: 1}, 1) {
			mustCompare(t, k, order.Max(), -1)
			mustCompare(t, order.Max(), k, 1)
			seen++
		}
	}
	if seen != 5*4*5 {
		t.Errorf("%d keys of events that may be, want %d", seen, 5*4*5)
	}
}

func mustMay(t *testing.T, e api.Event, procs int, want bool) {
	t.Helper()
	if may := order.May(e, procs); may != want {
		t.Errorf("%+v of %d processes: %v", e, procs, may)
	}
}

// plain is an event that may be, of three processes or more.
func plain() api.Event {
	return api.Event{Key: key(5, 2, 9), To: 3, Kind: 4, Data: 6}
}

func TestMayOfTimes(t *testing.T) {
	for time, want := range map[int64]bool{
		math.MinInt64: false, -1 << 40: false, -1: false, 0: true, 1: true, 1 << 31: true, 1 << 32: true,
		1<<40 - 1: true, 1 << 40: true, 1<<40 + 1: false, 1 << 41: false, math.MaxInt64: false,
	} {
		e := plain()
		e.Time = time
		mustMay(t, e, 3, want)
	}
}

func TestMayOfOrigins(t *testing.T) {
	for origin, want := range map[int]bool{
		math.MinInt: false, -1: false, 0: true, 1: true, 3: true, 4: true, 15: true, 16: true, 17: true,
		18: false, 256: false, 1 << 32: false, math.MaxInt: false,
	} {
		e := plain()
		e.Origin = origin
		mustMay(t, e, 3, want)
	}
}

func TestMayOfSeqs(t *testing.T) {
	for seq, want := range map[int64]bool{
		math.MinInt64: false, -1 << 62: false, -1: false, 0: true, 1: true, 1 << 32: true, 1 << 40: true,
		1<<62 - 1: true, 1 << 62: true, 1<<62 + 1: false, math.MaxInt64: false,
	} {
		e := plain()
		e.Seq = seq
		mustMay(t, e, 3, want)
	}
}

func TestMayOfKinds(t *testing.T) {
	for kind, want := range map[int]bool{
		math.MinInt: false, -1: false, 0: true, 1: true, 6: true, 7: true, 8: false, 256: false, 1 << 32: false, math.MaxInt: false,
	} {
		e := plain()
		e.Kind = kind
		mustMay(t, e, 3, want)
	}
}

func TestMayOfProcesses(t *testing.T) {
	for procs := -2; procs <= 20; procs++ {
		for to := -3; to <= 21; to++ {
			e := plain()
			e.To = to
			mustMay(t, e, procs, to >= 1 && to <= procs)
		}
	}
}

func TestMayOfFarProcesses(t *testing.T) {
	for _, c := range []struct {
		to, procs int
		want      bool
	}{
		{math.MinInt, math.MinInt, false},
		{math.MinInt, math.MaxInt, false},
		{0, math.MaxInt, false},
		{1, math.MinInt, false},
		{1, math.MaxInt, true},
		{math.MaxInt, math.MaxInt, true},
		{math.MaxInt, math.MaxInt - 1, false},
		{math.MaxInt, 16, false},
		{1 << 32, 16, false},
		{1<<32 + 1, 16, false},
		{1, 1<<32 + 1, true},
		{2, 1<<32 + 1, true},
	} {
		e := plain()
		e.To = c.to
		mustMay(t, e, c.procs, c.want)
	}
}

func TestMayOfNoProcesses(t *testing.T) {
	for to := -1; to <= 1; to++ {
		mustMay(t, api.Event{To: to}, 0, false)
		mustMay(t, api.Event{To: to}, -1, false)
	}
}

func TestMayOfEdgesTogether(t *testing.T) {
	mustMay(t, api.Event{}, 16, false)
	mustMay(t, api.Event{To: 1}, 1, true)
	mustMay(t, api.Event{Key: key(1<<40, 17, 1<<62), To: 16, Kind: 7, Data: math.MaxInt64}, 16, true)
	mustMay(t, api.Event{Key: key(1<<40+1, 18, 1<<62+1), To: 17, Kind: 8}, 16, false)
	mustMay(t, api.Event{Key: key(-1, -1, -1), To: -1, Kind: -1, Data: -1}, 16, false)
	mustMay(t, api.Event{Key: order.Max(), To: 1}, 1, false)
}

func TestMayOfAnyDatum(t *testing.T) {
	for _, data := range []int64{math.MinInt64, -1, 0, 1, math.MaxInt64} {
		e := plain()
		e.Data = data
		mustMay(t, e, 3, true)
	}
}

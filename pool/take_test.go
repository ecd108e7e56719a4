package pool_test

import (
	"math"
	"testing"

	"riffle/api"
)

// sizes are numbers of messages from none to many; 128 is how many stand together at most.
var sizes = []int{0, 1, 2, 3, 7, 127, 128, 129, 255, 256, 257, 385, 1000}

// P6.2

func TestTakeOfEachPlace(t *testing.T) {
	for _, n := range sizes[1:] {
		l := row(n)
		for i := 0; i < n; i += 1 + n/40 {
			p := of(t, l...)
			mustTake(t, p, i, l[i])
			mustHave(t, p, without(l, i)...)
		}
		p := of(t, l...)
		mustTake(t, p, n-1, l[n-1])
		mustHave(t, p, l[:n-1]...)
	}
}

func TestTakeFromTheFront(t *testing.T) {
	for _, n := range sizes {
		l := row(n)
		p := of(t, l...)
		for i, m := range l {
			mustTake(t, p, 0, m)
			if n < 300 {
				mustHave(t, p, l[i+1:]...)
			}
		}
		mustHave(t, p)
		mustHaveNoPlace(t, p, 0, api.ErrNone)
	}
}

func TestTakeFromTheBack(t *testing.T) {
	for _, n := range sizes {
		l := row(n)
		p := of(t, l...)
		for i := n - 1; i >= 0; i-- {
			mustTake(t, p, i, l[i])
			if n < 300 {
				mustHave(t, p, l[:i]...)
			}
		}
		mustHave(t, p)
		mustHaveNoPlace(t, p, 0, api.ErrNone)
	}
}

func TestTakeFromTheMidst(t *testing.T) {
	for _, n := range sizes {
		l := row(n)
		p := of(t, l...)
		for len(l) > 0 {
			i := len(l) / 2
			mustTake(t, p, i, l[i])
			l = without(l, i)
			if n < 300 {
				mustHave(t, p, l...)
			}
		}
		mustHave(t, p)
		mustHaveNoPlace(t, p, 0, api.ErrNone)
	}
}

// Where what stands together was taken but for a few, others come to stand with them.
func TestTakeOfAllButAFew(t *testing.T) {
	for _, kept := range []int{1, 2, 64, 100, 127, 128, 129, 200} {
		l := row(1300)
		p := of(t, l...)
		for i := len(l) - 1; i >= 0; i-- {
			if i%kept != kept/2 {
				mustTake(t, p, i, l[i])
				l = without(l, i)
			}
		}
		mustHave(t, p, l...)
		for i, m := range row(300) {
			mustPut(t, p, m, 1300+i)
		}
		mustHave(t, p, append(l, row(300)...)...)
	}
}

func TestPlacesThatAreNone(t *testing.T) {
	for _, n := range sizes {
		l := row(n)
		p := of(t, l...)
		for _, i := range []int{math.MinInt, math.MinInt32, -n - 1, -1, n, n + 1, 2*n + 1, api.MaxPool, math.MaxInt32, 1 << 32, math.MaxInt} {
			mustHaveNoPlace(t, p, i, api.ErrNone)
		}
		mustHave(t, p, l...)
		mustPut(t, p, message(1, 1, 1, 1), n)
	}
}

func TestTheLastPlaceAndTheOneBehindIt(t *testing.T) {
	for _, n := range sizes[1:] {
		l := row(n)
		p := of(t, l...)
		mustBeAt(t, p, n-1, l[n-1])
		mustHaveNoPlace(t, p, n, api.ErrNone)
		mustTake(t, p, n-1, l[n-1])
		mustHaveNoPlace(t, p, n-1, api.ErrNone)
		mustHave(t, p, l[:n-1]...)
	}
}

func TestAtTakesNothingAway(t *testing.T) {
	l := row(300)
	p := of(t, l...)
	for range 3 {
		for i := range l {
			mustBeAt(t, p, i, l[i])
			mustBeAt(t, p, len(l)-1-i, l[len(l)-1-i])
		}
	}
	mustHave(t, p, l...)
	mustPut(t, p, l[0], 300)
}

func TestAtGoesWithWhatIsTaken(t *testing.T) {
	l := row(6)
	p := of(t, l...)
	mustTake(t, p, 2, l[2])
	mustBeAt(t, p, 2, l[3])
	mustBeAt(t, p, 1, l[1])
	mustTake(t, p, 0, l[0])
	mustBeAt(t, p, 0, l[1])
	mustBeAt(t, p, 1, l[3])
	mustBeAt(t, p, 3, l[5])
	mustPut(t, p, l[2], 6)
	mustBeAt(t, p, 4, l[2])
}

// P6.3

func TestLeastTakesNothingAway(t *testing.T) {
	l := row(300)
	p := of(t, l...)
	for range 3 {
		mustLeast(t, p, l[0].Key, true)
		mustOlder(t, p, 7, 300)
	}
	mustHave(t, p, l...)
	mustPut(t, p, l[0], 300)
}

func TestLeastWhereverItStands(t *testing.T) {
	for _, n := range sizes[1:] {
		for i := 0; i < n; i += 1 + n/50 {
			l := row(n)
			l[i].Time = -1
			mustLeast(t, of(t, l...), l[i].Key, true)
		}
		l := row(n)
		l[n-1].Time = -1
		mustLeast(t, of(t, l...), l[n-1].Key, true)
	}
}

func TestLeastByTimesThenOriginsThenSeqs(t *testing.T) {
	rising := []api.Message{
		message(math.MinInt64, 9, 9, 0), message(-1, 9, 9, 0), message(0, math.MinInt, 9, 0), message(0, -1, 9, 0),
		message(0, 0, math.MinInt64, 0), message(0, 0, -1, 0), message(0, 0, 0, 0), message(0, 0, 1, 0), message(0, 1, 0, 0),
		message(1, 0, 0, 0), message(1, 2, 0, 0), message(api.MaxTime+1, 0, 0, 0), message(api.MaxTime+1, 0, 1, 0), message(math.MaxInt64, math.MaxInt, math.MaxInt64, 0),
	}
	for i, a := range rising {
		mustLeast(t, of(t, a), a.Key, true)
		for _, b := range rising[i:] {
			mustLeast(t, of(t, a, b), a.Key, true)
			mustLeast(t, of(t, b, a), a.Key, true)
			mustLeast(t, of(t, b, b, a, b), a.Key, true)
		}
	}
}

func TestLeastIsOfKeysAlone(t *testing.T) {
	a, b := message(5, 1, 8, 3), message(5, 1, 9, 3)
	b.To, b.Kind, b.Data, b.Serial, b.Colour = -9, -9, -9, -9, -9
	a.Anti, a.Back = true, true
	mustLeast(t, of(t, a, b), a.Key, true)
	mustLeast(t, of(t, b, a), a.Key, true)
}

func TestLeastWhereSeveralHaveIt(t *testing.T) {
	a, b := message(5, 1, 8, 3), message(6, 1, 8, 3)
	p := of(t, b, a, b, a, b)
	mustTake(t, p, 1, a)
	mustLeast(t, p, a.Key, true)
	mustTake(t, p, 2, a)
	mustLeast(t, p, b.Key, true)
	mustTake(t, p, 1, b)
	mustTake(t, p, 0, b)
	mustLeast(t, p, b.Key, true)
	mustTake(t, p, 0, b)
	mustLeast(t, p, api.Key{}, false)
}

func TestLeastWhereTheLeastOneIsTaken(t *testing.T) {
	var l []api.Message
	for i := range 300 {
		l = append(l, message(int64(i*101%300), 1, int64(i), 0))
	}
	p := of(t, l...)
	for time := range int64(300) {
		i := 0
		for l[i].Time != time {
			i++
		}
		mustLeast(t, p, l[i].Key, true)
		mustTake(t, p, i, l[i])
		l = without(l, i)
	}
	mustLeast(t, p, api.Key{}, false)
	mustPut(t, p, message(1000, 1, 1, 1), 300)
	mustLeast(t, p, api.Key{Time: 1000, Origin: 1, Seq: 1}, true)
}

func TestLeastOfAZeroKeyIsThere(t *testing.T) {
	mustLeast(t, of(t, api.Message{}), api.Key{}, true)
	mustLeast(t, of(t, message(3, 1, 1, 1), api.Message{}), api.Key{}, true)
	mustLeast(t, of(t), api.Key{}, false)
}

func TestOlderIsOfColoursBelow(t *testing.T) {
	colours := []int{math.MinInt, -7, -1, -1, 0, 0, 0, 1, 2, 2, 1 << 32, math.MaxInt}
	for _, turn := range []int{0, 1, 5, 11} {
		var l []api.Message
		for i := range colours {
			l = append(l, message(int64(i), 1, 1, colours[(i*5+turn)%len(colours)]))
		}
		p := of(t, l...)
		for colour, want := range map[int]int{
			math.MinInt: 0, math.MinInt + 1: 1, -8: 1, -7: 1, -6: 2, -1: 2, 0: 4, 1: 7, 2: 8, 3: 10,
			1 << 32: 10, 1<<32 + 1: 11, math.MaxInt: 11,
		} {
			mustOlder(t, p, colour, want)
		}
		mustHave(t, p, l...)
	}
}

func TestOlderOfOneColour(t *testing.T) {
	for _, colour := range []int{-3, -1, 0, 1, 4} {
		for _, n := range sizes {
			p := of(t)
			for i := range n {
				mustPut(t, p, message(int64(i), 1, 1, colour), i)
			}
			mustOlder(t, p, colour-1, 0)
			mustOlder(t, p, colour, 0)
			mustOlder(t, p, colour+1, n)
		}
	}
}

func TestOlderGoesWithWhatIsTaken(t *testing.T) {
	p := of(t, message(1, 1, 1, 1), message(2, 1, 1, 2), message(3, 1, 1, 1), message(4, 1, 1, 3))
	mustOlder(t, p, 2, 2)
	mustTake(t, p, 1, message(2, 1, 1, 2))
	mustOlder(t, p, 2, 2)
	mustTake(t, p, 0, message(1, 1, 1, 1))
	mustOlder(t, p, 2, 1)
	mustTake(t, p, 0, message(3, 1, 1, 1))
	mustOlder(t, p, 2, 0)
	mustPut(t, p, message(5, 1, 1, -1), 4)
	mustOlder(t, p, 2, 1)
	mustOlder(t, p, 0, 1)
	mustOlder(t, p, -1, 0)
}

// Antis, and what goes back, count as all others do.
func TestLeastAndOlderOfEachSort(t *testing.T) {
	for sort := range 4 {
		m := message(5, 1, 8, 3)
		m.Anti, m.Back = sort%2 == 1, sort/2 == 1
		p := of(t, message(9, 1, 1, 9), m)
		mustLeast(t, p, m.Key, true)
		mustOlder(t, p, 4, 1)
	}
}

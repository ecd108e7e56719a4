package pool_test

import (
	"math/rand"
	"slices"
	"testing"

	"riffle/api"
	"riffle/pool"
)

// P6.5

// takenOnce takes all n messages of a full row by places that pick tells, and asks whether each came once.
func takenOnce(t *testing.T, n int, pick func(left int) int) {
	t.Helper()
	p := pool.New()
	for i := range n {
		mustPut(t, p, api.Message{Serial: int64(i)}, i)
	}
	seen := make([]bool, n)
	for left := n; left > 0; left-- {
		i := pick(left)
		at, _ := p.At(i)
		m, err := p.Take(i)
		if err != api.OK || m != at || seen[m.Serial] {
			t.Fatalf("Take of %d: %+v, %v; At: %+v; seen: %v", i, m, err, at, seen[m.Serial])
		}
		seen[m.Serial] = true
	}
	mustHave(t, p)
	if slices.Contains(seen, false) {
		t.Error("not all were taken")
	}
}

func TestWhatIsPutIsTakenOnceInWhateverOrder(t *testing.T) {
	r := rand.New(rand.NewSource(1))
	for _, n := range append(sizes[1:], 5000, api.MaxPool) {
		takenOnce(t, n, func(int) int { return 0 })
		takenOnce(t, n, func(left int) int { return left - 1 })
		takenOnce(t, n, func(left int) int { return left / 2 })
		takenOnce(t, n, func(left int) int { return left * 2 / 3 })
		takenOnce(t, n, r.Intn)
		takenOnce(t, n, func(left int) int { return r.Intn(min(left, 300)) })
	}
}

func TestTakenInEachOrderOfFive(t *testing.T) {
	l := row(5)
	var take func(p *pool.Pool, left []api.Message)
	take = func(p *pool.Pool, left []api.Message) {
		mustHave(t, p, left...)
		for i := range left {
			c := p.Copy()
			mustTake(t, c, i, left[i])
			take(c, without(left, i))
		}
	}
	take(of(t, l...), l)
}

// slow is a pool as its words tell it: one list, and how many were put.
type slow struct {
	l   []api.Message
	put int
}

func (s *slow) copied() slow {
	return slow{slices.Clone(s.l), s.put}
}

// goOn puts or takes by chance, with both, and asks whether they answer the same; so many of 100 are puts.
func goOn(t *testing.T, r *rand.Rand, p *pool.Pool, s *slow, puts int) {
	t.Helper()
	if r.Intn(100) < puts {
		m := message(r.Int63n(50), r.Intn(4), r.Int63n(4), r.Intn(8)-3)
		m.Anti, m.Back = r.Intn(2) == 0, r.Intn(2) == 0
		mustPut(t, p, m, s.put)
		s.l = append(s.l, m)
		s.put++
		return
	}
	i := r.Intn(len(s.l)+4) - 2
	if i < 0 || i >= len(s.l) {
		mustHaveNoPlace(t, p, i, api.ErrNone)
		return
	}
	mustTake(t, p, i, s.l[i])
	s.l = without(s.l, i)
}

func TestManyCallsByChance(t *testing.T) {
	for seed := range int64(6) {
		r := rand.New(rand.NewSource(seed))
		p, s := pool.New(), &slow{}
		for i := range 6000 {
			goOn(t, r, p, s, []int{90, 45, 70, 10, 55, 30}[i/1000])
			if i%40 == 0 {
				mustHave(t, p, s.l...)
			}
			if r.Intn(300) == 0 {
				c, was := p.Copy(), s.copied()
				for range 20 {
					goOn(t, r, p, s, 50)
				}
				mustHave(t, c, was.l...)
				mustPut(t, c, message(1, 1, 1, 1), was.put)
			}
		}
		mustHave(t, p, s.l...)
		for _, m := range s.l {
			mustTake(t, p, 0, m)
		}
		mustHave(t, p)
	}
}

func TestWhatPassesThroughWhileSomeStay(t *testing.T) {
	p := of(t, row(10)...)
	stay := row(10)
	for i := range 20000 {
		m := message(int64(i), 1, int64(i), i)
		mustPut(t, p, m, 10+i)
		if i%100 == 0 {
			stay = append(stay, m)
		} else {
			mustTake(t, p, len(stay), m)
		}
	}
	mustHave(t, p, stay...)
}

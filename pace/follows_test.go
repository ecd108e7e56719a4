package pace_test

import (
	"math/big"
	"math/rand"
	"testing"

	"riffle/api"
	"riffle/pace"
)

// horizonByWords is the horizon of what a pace has, as its words tell it.
func horizonByWords(s api.Pace) int64 {
	gone := new(big.Int).Sub(big.NewInt(s.Clock), big.NewInt(s.Base))
	gone.Mul(gone, big.NewInt(s.Num))
	gone.Div(gone, big.NewInt(s.Den))
	gone.Add(gone, big.NewInt(s.Start))
	if gone.Cmp(big.NewInt(api.MaxTime)) > 0 {
		return api.MaxTime
	}
	return gone.Int64()
}

// waitByWords looks for the least reading, since the horizon never goes back.
func waitByWords(s api.Pace, time int64) (int64, bool) {
	there := func(clock int64) bool {
		s.Clock = clock
		return horizonByWords(s) >= time
	}
	low, high := s.Clock, int64(most)
	if !there(high) {
		return 0, false
	}
	for low < high {
		if middle := low + (high-low)/2; there(middle) {
			high = middle
		} else {
			low = middle + 1
		}
	}
	return low, true
}

func mustBeByWords(t *testing.T, p *pace.Pace, want api.Pace, times ...int64) {
	t.Helper()
	mustHave(t, p, want)
	mustReach(t, p, horizonByWords(want))
	for _, time := range times {
		if n, ok := waitByWords(want, time); ok {
			mustWait(t, p, time, n)
		} else {
			mustNotWait(t, p, time)
		}
	}
}

func TestSmallOnes(t *testing.T) {
	times := []int64{-1, 0, 1, 2, 3, 4, 5, 6, 7, 8, 9, 10, 11, 12, 13, 50}
	for num := range int64(6) {
		for den := int64(1); den < 6; den++ {
			for base := range int64(4) {
				for ahead := range int64(12) {
					s := api.Pace{Base: base, Num: num, Den: den, Clock: base + ahead}
					mustBeByWords(t, at(t, s), s, times...)
				}
			}
		}
	}
}

// below is a number from 0 on that is below a bound, often near 0, often near the bound.
func below(r *rand.Rand, bound int64) int64 {
	n := r.Int63n(bound) >> r.Intn(64)
	if r.Intn(3) == 0 {
		return bound - 1 - n
	}
	return n
}

// reading is one that may come: little ahead, far ahead, or not ahead of the clock.
func reading(r *rand.Rand, clock int64) int64 {
	switch r.Intn(8) {
	case 0:
		return int64(r.Uint64()) >> r.Intn(64)
	case 1:
		return clock - r.Int63n(5)
	case 2:
		return clock + below(r, max(most-clock, 1))
	default:
		return clock + min(r.Int63n(1<<r.Intn(45)), most-clock)
	}
}

func randomRate(r *rand.Rand) (num, den int64) {
	num, den = below(r, api.MaxRate+1), 1+below(r, api.MaxRate)
	if r.Intn(8) == 0 {
		num = []int64{-1, api.MaxRate + 1, int64(r.Uint64())}[r.Intn(3)]
	}
	if r.Intn(8) == 0 {
		den = []int64{0, -1, api.MaxRate + 1, int64(r.Uint64())}[r.Intn(4)]
	}
	return num, den
}

// rated is what a pace has behind a call of Rate, and the call's error, as its words tell it.
func rated(s api.Pace, num, den int64) (api.Pace, api.Errno) {
	if den < 1 || den > api.MaxRate || num < 0 || num > api.MaxRate {
		return s, api.ErrArg
	}
	return api.Pace{Start: horizonByWords(s), Base: s.Clock, Num: num, Den: den, Clock: s.Clock}, api.OK
}

// P10.4

func TestTheHorizonNeverGoesBack(t *testing.T) {
	r := rand.New(rand.NewSource(1))
	for range 3000 {
		p, s := pace.New(), first
		if r.Intn(2) == 0 {
			p = new(pace.Pace)
		}
		for range 30 {
			was := p.Horizon()
			if r.Intn(3) == 0 {
				num, den := randomRate(r)
				next, want := rated(s, num, den)
				if err := p.Rate(num, den); err != want {
					t.Fatalf("Rate(%d, %d): %v, want %v", num, den, err, want)
				}
				mustReach(t, p, was)
				s = next
			} else {
				clock := reading(r, s.Clock)
				p.Tick(clock)
				s.Clock = max(s.Clock, clock)
			}
			h := p.Horizon()
			if h < was || h > api.MaxTime {
				t.Fatalf("the horizon was %d, and is %d: %+v", was, h, s)
			}
			mustBeByWords(t, p, s, h, h+1, h+1+r.Int63n(1<<r.Intn(40)), below(r, api.MaxTime+2), api.MaxTime)
		}
	}
}

func TestSettingARateDoesNotChangeTheHorizon(t *testing.T) {
	for _, s := range []api.Pace{
		first,
		some,
		{Num: 3, Den: 2, Clock: 5},
		{Num: 1, Den: api.MaxRate, Clock: api.MaxRate - 1},
		{Num: api.MaxRate, Den: 1, Clock: most},
		{Num: 1, Den: 1, Clock: api.MaxTime - 1},
		{Start: api.MaxTime, Base: 1 << 21, Num: 1, Den: 1, Clock: most},
	} {
		for _, rate := range [][2]int64{{0, 1}, {1, 1}, {1, api.MaxRate}, {api.MaxRate, 1}, {api.MaxRate, api.MaxRate}, {0, api.MaxRate}} {
			p := at(t, s)
			want := p.Horizon()
			for range 3 {
				mustRate(t, p, rate[0], rate[1])
				mustReach(t, p, want)
				mustHave(t, p, api.Pace{Start: want, Base: s.Clock, Num: rate[0], Den: rate[1], Clock: s.Clock})
			}
			p.Tick(s.Clock)
			p.Tick(s.Clock - 1)
			p.Tick(least)
			mustReach(t, p, want)
		}
	}
}

// One who waits as Wait tells finds the horizon there, however long the clock stands meanwhile.
func TestWaitingGoesOn(t *testing.T) {
	p := pace.New()
	mustRate(t, p, 2, 7)
	clock := int64(0)
	for time := range int64(1000) {
		n, ok := p.Wait(time)
		if !ok || n < clock {
			t.Fatalf("Wait(%d) of %+v: %d, %v", time, p.State(), n, ok)
		}
		p.Tick(n)
		clock = n
		if h := p.Horizon(); h != time {
			t.Fatalf("at %d the horizon is %d, not %d", n, h, time)
		}
	}
}

func TestAskingChangesNothing(t *testing.T) {
	var zero pace.Pace
	for _, p := range []*pace.Pace{&zero, pace.New(), at(t, some)} {
		was := *p
		p.Horizon()
		p.Wait(p.Horizon() + 1)
		p.Wait(0)
		p.State()
		p.Copy().Tick(most)
		p.Same(pace.New())
		pace.New().Same(p)
		if *p != was {
			t.Errorf("%+v was changed to %+v", was, *p)
		}
	}
}

package pace_test

import (
	"math"
	"testing"

	"riffle/api"
	"riffle/pace"
)

const (
	most  = math.MaxInt64
	least = math.MinInt64
)

// first is what a new pace has.
var first = api.Pace{Den: 1}

// at makes a pace that has these parts: it comes to the Start by two steps, and stands there till the Base.
func at(t *testing.T, want api.Pace) *pace.Pace {
	t.Helper()
	p := pace.New()
	if want.Start > 0 {
		mustRate(t, p, api.MaxRate, 1)
		p.Tick(want.Start / api.MaxRate)
		mustRate(t, p, want.Start%api.MaxRate, 1)
		p.Tick(want.Start/api.MaxRate + 1)
	}
	if want.Start > 0 || want.Base > 0 {
		mustRate(t, p, 0, 1)
	}
	p.Tick(want.Base)
	mustRate(t, p, want.Num, want.Den)
	p.Tick(want.Clock)
	mustHave(t, p, want)
	return p
}

func mustRate(t *testing.T, p *pace.Pace, num, den int64) {
	t.Helper()
	if err := p.Rate(num, den); err != api.OK {
		t.Fatalf("Rate(%d, %d): %v", num, den, err)
	}
}

func mustRefuse(t *testing.T, p *pace.Pace, num, den int64, want api.Errno) {
	t.Helper()
	was, horizon := p.State(), p.Horizon()
	if err := p.Rate(num, den); err != want {
		t.Errorf("Rate(%d, %d) of %+v: %v, want %v", num, den, was, err, want)
	}
	mustHave(t, p, was)
	mustReach(t, p, horizon)
}

func mustHave(t *testing.T, p *pace.Pace, want api.Pace) {
	t.Helper()
	if s := p.State(); s != want {
		t.Fatalf("State: %+v, want %+v", s, want)
	}
}

func mustReach(t *testing.T, p *pace.Pace, want int64) {
	t.Helper()
	if h := p.Horizon(); h != want {
		t.Errorf("Horizon of %+v: %d, want %d", p.State(), h, want)
	}
}

// The examples

func TestExamples(t *testing.T) {
	p := pace.New()
	mustRate(t, p, 3, 2)
	p.Tick(5)
	mustReach(t, p, 7)
	mustHave(t, p, api.Pace{Num: 3, Den: 2, Clock: 5})
	mustRate(t, p, 0, 1)
	p.Tick(100)
	mustReach(t, p, 7)
	mustHave(t, p, api.Pace{Start: 7, Base: 5, Den: 1, Clock: 100})
	p.Tick(50)
	mustHave(t, p, api.Pace{Start: 7, Base: 5, Den: 1, Clock: 100})
	mustRate(t, p, 1, 1)
	p.Tick(110)
	mustReach(t, p, 17)
	mustHave(t, p, api.Pace{Start: 7, Base: 100, Num: 1, Den: 1, Clock: 110})
}

// P10.1

func TestNewIsTheFirstOne(t *testing.T) {
	var zero pace.Pace
	for _, p := range []*pace.Pace{pace.New(), &zero, new(pace.Pace)} {
		mustHave(t, p, first)
		mustReach(t, p, 0)
		if !p.Same(pace.New()) || !pace.New().Same(p) {
			t.Error("a zero pace and a new one are not the same")
		}
	}
	if p := pace.New(); p == pace.New() {
		t.Error("two new ones are one")
	}
}

func TestAZeroPaceGoesOnAsANewOne(t *testing.T) {
	steps := []func(p *pace.Pace){
		func(p *pace.Pace) { p.Tick(7) },
		func(p *pace.Pace) { p.Tick(-7) },
		func(p *pace.Pace) { p.Rate(0, 1) },
		func(p *pace.Pace) { p.Rate(2, 3); p.Tick(10) },
		func(p *pace.Pace) { p.Rate(2, 0); p.Tick(10) },
		func(p *pace.Pace) { p.Horizon(); p.Wait(5); p.State(); p.Copy(); p.Same(p) },
	}
	for i, step := range steps {
		var zero pace.Pace
		p := pace.New()
		step(&zero)
		step(p)
		if zero.State() != p.State() || zero.Horizon() != p.Horizon() || !p.Same(&zero) {
			t.Errorf("step %d: a zero one comes to %+v, a new one to %+v", i, zero.State(), p.State())
		}
	}
}

func TestNewOnesStandTillARateIsSet(t *testing.T) {
	p := pace.New()
	for _, clock := range []int64{1, 1000, most} {
		p.Tick(clock)
		mustReach(t, p, 0)
		mustHave(t, p, api.Pace{Den: 1, Clock: clock})
	}
}

func TestTickTakesGreaterReadingsAlone(t *testing.T) {
	p := pace.New()
	for _, c := range []struct{ reading, clock int64 }{
		{-1, 0}, {least, 0}, {0, 0}, {1, 1}, {1, 1}, {0, 1}, {-1, 1}, {least, 1}, {2, 2}, {10, 10}, {9, 10}, {10, 10}, {11, 11},
		{most - 1, most - 1}, {most - 2, most - 1}, {most, most}, {most, most}, {most - 1, most}, {0, most}, {least, most},
	} {
		p.Tick(c.reading)
		mustHave(t, p, api.Pace{Den: 1, Clock: c.clock})
	}
}

func TestTickChangesTheClockAlone(t *testing.T) {
	s := api.Pace{Start: 1234567, Base: 89, Num: 5, Den: 7, Clock: 100}
	p := at(t, s)
	for _, reading := range []int64{101, 100, -5, 5000, most} {
		p.Tick(reading)
		s.Clock = max(s.Clock, reading)
		mustHave(t, p, s)
	}
}

func TestRatesThatMayBe(t *testing.T) {
	for _, num := range []int64{0, 1, 2, api.MaxRate - 1, api.MaxRate} {
		for _, den := range []int64{1, 2, api.MaxRate - 1, api.MaxRate} {
			p := at(t, api.Pace{Start: 6, Base: 10, Num: 1, Den: 1, Clock: 14})
			mustRate(t, p, num, den)
			mustHave(t, p, api.Pace{Start: 10, Base: 14, Num: num, Den: den, Clock: 14})
			mustReach(t, p, 10)
			p.Tick(14 + api.MaxRate)
			mustReach(t, p, 10+min(api.MaxRate*num/den, api.MaxTime-10))
		}
	}
}

func TestRatesThatAreRefused(t *testing.T) {
	states := []api.Pace{first, {Num: 1, Den: 1, Clock: most}, {Start: 77, Base: 9, Num: api.MaxRate, Den: api.MaxRate, Clock: 80}}
	for _, s := range states {
		p := at(t, s)
		for _, den := range []int64{0, -1, least, api.MaxRate + 1, most, 1 << 32} {
			for _, num := range []int64{0, 1, api.MaxRate, -1, api.MaxRate + 1, most, least} {
				mustRefuse(t, p, num, den, api.ErrArg)
			}
		}
		for _, num := range []int64{-1, least, api.MaxRate + 1, most, 1 << 32} {
			for _, den := range []int64{1, 2, api.MaxRate} {
				mustRefuse(t, p, num, den, api.ErrArg)
			}
		}
	}
	var zero pace.Pace
	mustRefuse(t, &zero, 1, 0, api.ErrArg)
	mustRefuse(t, &zero, -1, 1, api.ErrArg)
	mustHave(t, &zero, first)
}

func TestNilOnes(t *testing.T) {
	var p *pace.Pace
	p.Tick(5)
	p.Tick(most)
	for _, c := range [][2]int64{{1, 1}, {1, 0}, {-1, 1}, {api.MaxRate + 1, api.MaxRate + 1}} {
		mustRefuse(t, p, c[0], c[1], api.ErrNil)
	}
	mustReach(t, p, 0)
	mustHave(t, p, api.Pace{})
}

func TestRateTakesTheWholePartOfTheHorizonAlone(t *testing.T) {
	p := pace.New()
	mustRate(t, p, 1, 3)
	p.Tick(5)
	mustReach(t, p, 1)
	mustRate(t, p, 1, 3)
	mustHave(t, p, api.Pace{Start: 1, Base: 5, Num: 1, Den: 3, Clock: 5})
	p.Tick(7)
	mustReach(t, p, 1)
	p.Tick(8)
	mustReach(t, p, 2)
}

func TestRateHoldsFromTheClockOn(t *testing.T) {
	p := pace.New()
	p.Tick(1000)
	mustRate(t, p, 2, 1)
	mustHave(t, p, api.Pace{Base: 1000, Num: 2, Den: 1, Clock: 1000})
	p.Tick(400)
	mustReach(t, p, 0)
	p.Tick(1003)
	mustReach(t, p, 6)
	p.Tick(1001)
	mustRate(t, p, 5, 2)
	mustHave(t, p, api.Pace{Start: 6, Base: 1003, Num: 5, Den: 2, Clock: 1003})
	p.Tick(1004)
	mustReach(t, p, 8)
}

func TestTheWholePartOfWhatGoes(t *testing.T) {
	for _, c := range []struct {
		s    api.Pace
		want int64
	}{
		{api.Pace{Num: 1, Den: 2, Clock: 1}, 0},
		{api.Pace{Num: 1, Den: 2, Clock: 2}, 1},
		{api.Pace{Num: 2, Den: 3, Clock: 4}, 2},
		{api.Pace{Num: 2, Den: 3, Clock: 5}, 3},
		{api.Pace{Num: 1, Den: api.MaxRate, Clock: api.MaxRate - 1}, 0},
		{api.Pace{Num: 1, Den: api.MaxRate, Clock: api.MaxRate}, 1},
		{api.Pace{Num: api.MaxRate - 1, Den: api.MaxRate, Clock: 1}, 0},
		{api.Pace{Num: api.MaxRate, Den: api.MaxRate - 1, Clock: api.MaxRate - 2}, api.MaxRate - 2},
		{api.Pace{Num: api.MaxRate, Den: api.MaxRate - 1, Clock: api.MaxRate - 1}, api.MaxRate},
		{api.Pace{Start: 1 << 39, Base: 1 << 30, Num: 3, Den: 2, Clock: 1<<30 + 3}, 1<<39 + 4},
		{api.Pace{Base: most - 3, Num: 7, Den: 2, Clock: most}, 10},
		{api.Pace{Base: most, Num: api.MaxRate, Den: 1, Clock: most}, 0},
	} {
		mustReach(t, at(t, c.s), c.want)
	}
}

func TestTheHorizonIsMaxTimeAtMost(t *testing.T) {
	for _, c := range []struct {
		s    api.Pace
		want int64
	}{
		{api.Pace{Num: 1, Den: 1, Clock: api.MaxTime - 1}, api.MaxTime - 1},
		{api.Pace{Num: 1, Den: 1, Clock: api.MaxTime}, api.MaxTime},
		{api.Pace{Num: 1, Den: 1, Clock: api.MaxTime + 1}, api.MaxTime},
		{api.Pace{Num: api.MaxRate, Den: 1, Clock: api.MaxRate - 1}, api.MaxTime - api.MaxRate},
		{api.Pace{Num: api.MaxRate, Den: 1, Clock: api.MaxRate}, api.MaxTime},
		{api.Pace{Num: 1, Den: api.MaxRate, Clock: 1<<60 - 1}, api.MaxTime - 1},
		{api.Pace{Num: 1, Den: api.MaxRate, Clock: 1 << 60}, api.MaxTime},
		{api.Pace{Num: 1, Den: api.MaxRate, Clock: 1<<60 + api.MaxRate}, api.MaxTime},
		{api.Pace{Num: api.MaxRate, Den: api.MaxRate, Clock: api.MaxTime - 1}, api.MaxTime - 1},
		{api.Pace{Num: api.MaxRate, Den: api.MaxRate, Clock: api.MaxTime + 1}, api.MaxTime},
		{api.Pace{Start: api.MaxTime - 2, Base: 2 * api.MaxRate, Num: 1, Den: 1, Clock: 2*api.MaxRate + 1}, api.MaxTime - 1},
		{api.Pace{Start: api.MaxTime - 2, Base: 2 * api.MaxRate, Num: 1, Den: 1, Clock: 2*api.MaxRate + 2}, api.MaxTime},
		{api.Pace{Start: api.MaxTime - 2, Base: 2 * api.MaxRate, Num: 1, Den: 1, Clock: 2*api.MaxRate + 3}, api.MaxTime},
		{api.Pace{Start: api.MaxTime, Base: 2 * api.MaxRate, Num: api.MaxRate, Den: 1, Clock: most}, api.MaxTime},
	} {
		p := at(t, c.s)
		mustReach(t, p, c.want)
		mustRate(t, p, 0, 1)
		mustHave(t, p, api.Pace{Start: c.want, Base: c.s.Clock, Den: 1, Clock: c.s.Clock})
		mustReach(t, p, c.want)
	}
}

// What goes is a number that 64 bits alone would tell as a small one, or as one below 0.
func TestNoNumberIsTooGreatOnTheWay(t *testing.T) {
	for _, s := range []api.Pace{
		{Num: api.MaxRate, Den: 1, Clock: most},
		{Num: api.MaxRate, Den: api.MaxRate, Clock: most},
		{Num: 1, Den: api.MaxRate, Clock: most},
		{Num: 1, Den: 1, Clock: most},
		{Num: 2, Den: 1, Clock: most},
		{Num: 3, Den: 1, Clock: most},
		{Num: 2, Den: 1, Clock: 1 << 62},
		{Num: 4, Den: 1, Clock: 1 << 62},
		{Num: 4, Den: api.MaxRate, Clock: 1 << 62},
		{Num: api.MaxRate, Den: 1, Clock: 1 << 44},
		{Num: api.MaxRate, Den: 1, Clock: 1<<44 + 1},
		{Num: api.MaxRate, Den: 1, Clock: 1 << 43},
		{Num: api.MaxRate, Den: api.MaxRate, Clock: 1 << 44},
		{Num: api.MaxRate, Den: api.MaxRate, Clock: 1<<44 + 5},
		{Num: api.MaxRate, Den: api.MaxRate - 1, Clock: most},
		{Num: api.MaxRate - 1, Den: api.MaxRate, Clock: most},
		{Start: api.MaxTime - 1, Base: 1 << 21, Num: api.MaxRate, Den: 1, Clock: most},
		{Start: 1, Base: 1, Num: 1, Den: 1, Clock: most},
		{Start: api.MaxTime, Base: 1 << 21, Num: 1, Den: 1, Clock: most},
	} {
		mustReach(t, at(t, s), api.MaxTime)
	}
}

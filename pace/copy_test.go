package pace_test

import (
	"testing"

	"riffle/api"
	"riffle/pace"
)

// some is parts of which each can be one more, and one less.
var some = api.Pace{Start: 5000, Base: 6000, Num: 70, Den: 80, Clock: 9000}

func mustBeSame(t *testing.T, p, o *pace.Pace, want bool) {
	t.Helper()
	if p.Same(o) != want || o.Same(p) != want {
		t.Errorf("Same of %+v and %+v: %v, %v, want %v", p.State(), o.State(), p.Same(o), o.Same(p), want)
	}
}

// P10.3

func TestCopiesAreTheSame(t *testing.T) {
	for _, s := range []api.Pace{first, some, {Num: api.MaxRate, Den: 1, Clock: most}, {Start: api.MaxTime, Base: 1 << 21, Num: 1, Den: api.MaxRate, Clock: most}} {
		p := at(t, s)
		c := p.Copy()
		if c == p {
			t.Fatal("a copy is the pace itself")
		}
		mustHave(t, c, s)
		mustHave(t, p, s)
		mustReach(t, c, p.Horizon())
		mustBeSame(t, p, c, true)
	}
	var zero pace.Pace
	c := zero.Copy()
	mustHave(t, c, first)
	mustBeSame(t, &zero, c, true)
	mustBeSame(t, pace.New(), c, true)
}

func TestCopyOfNil(t *testing.T) {
	var p *pace.Pace
	if c := p.Copy(); c != nil {
		t.Errorf("a copy of nil is %+v", c.State())
	}
}

func TestCopiesGoOnApart(t *testing.T) {
	p := at(t, some)
	c := p.Copy()
	c.Tick(10000)
	mustHave(t, p, some)
	mustRate(t, c, 1, 1)
	mustHave(t, p, some)
	mustReach(t, p, 7625)
	changed := c.State()
	p.Tick(9500)
	mustHave(t, c, changed)
	mustRate(t, p, 3, 4)
	mustHave(t, c, changed)
	mustReach(t, c, 8500)
	mustBeSame(t, p, c, false)
}

func TestCopiesOfAZeroPaceGoOnApart(t *testing.T) {
	var zero pace.Pace
	c := zero.Copy()
	mustRate(t, c, 2, 3)
	c.Tick(3)
	mustHave(t, &zero, first)
	zero.Tick(9)
	mustHave(t, c, api.Pace{Num: 2, Den: 3, Clock: 3})
}

func TestCopiesGoOnAlike(t *testing.T) {
	p := at(t, some)
	c := p.Copy()
	for _, o := range []*pace.Pace{p, c} {
		o.Tick(12345)
		mustRate(t, o, 6, 7)
		o.Tick(23456)
	}
	mustBeSame(t, p, c, true)
	mustReach(t, c, p.Horizon())
}

func TestSameWithNil(t *testing.T) {
	var none, zero *pace.Pace = nil, new(pace.Pace)
	mustBeSame(t, none, nil, true)
	mustBeSame(t, none, none, true)
	mustBeSame(t, none, zero, false)
	mustBeSame(t, none, pace.New(), false)
	mustBeSame(t, none, at(t, some), false)
}

func TestSameOfItself(t *testing.T) {
	p := at(t, some)
	mustBeSame(t, p, p, true)
	mustHave(t, p, some)
}

func TestSameTellsEachPart(t *testing.T) {
	p := at(t, some)
	for part := range 5 {
		for _, by := range []int64{1, -1} {
			s := some
			*[]*int64{&s.Start, &s.Base, &s.Num, &s.Den, &s.Clock}[part] += by
			mustBeSame(t, p, at(t, s), false)
			mustBeSame(t, at(t, s), at(t, s), true)
		}
	}
}

func TestSameTellsRatesThatGoAlike(t *testing.T) {
	p, o := at(t, api.Pace{Num: 1, Den: 2, Clock: 10}), at(t, api.Pace{Num: 2, Den: 4, Clock: 10})
	mustReach(t, p, o.Horizon())
	mustBeSame(t, p, o, false)
	p, o = at(t, api.Pace{Num: 1, Den: 1, Clock: 10}), at(t, api.Pace{Start: 4, Base: 4, Num: 1, Den: 1, Clock: 10})
	mustReach(t, p, o.Horizon())
	mustBeSame(t, p, o, false)
}

func TestSameByOtherSteps(t *testing.T) {
	p, o := pace.New(), pace.New()
	mustRate(t, p, 1, 2)
	p.Tick(10)
	mustRate(t, p, 3, 1)
	for clock := range int64(11) {
		o.Tick(clock)
	}
	mustBeSame(t, p, o, false)
	o = pace.New()
	mustRate(t, o, 1, 1)
	o.Tick(5)
	mustRate(t, o, 0, 7)
	o.Tick(10)
	mustRefuse(t, o, 3, 0, api.ErrArg)
	mustRate(t, o, api.MaxRate, api.MaxRate)
	o.Tick(-3)
	mustRate(t, o, 3, 1)
	mustBeSame(t, p, o, true)
	mustHave(t, p, api.Pace{Start: 5, Base: 10, Num: 3, Den: 1, Clock: 10})

	set := pace.New()
	mustRate(t, set, 0, 1)
	mustBeSame(t, set, pace.New(), true)
	mustBeSame(t, set, new(pace.Pace), true)
}

package pace_test

import (
	"testing"

	"riffle/api"
	"riffle/pace"
)

// mustWait asks for a reading, and whether the horizon is there by it, but not by one less that may still come.
func mustWait(t *testing.T, p *pace.Pace, time, want int64) {
	t.Helper()
	s := p.State()
	if n, ok := p.Wait(time); n != want || !ok {
		t.Errorf("Wait(%d) of %+v: %d, %v, want %d", time, s, n, ok, want)
		return
	}
	mustHave(t, p, s)
	c := p.Copy()
	if want > s.Clock {
		c.Tick(want - 1)
		if h := c.Horizon(); h >= time {
			t.Errorf("%+v: at %d, one less, the horizon is %d, that is %d at least", s, want-1, h, time)
		}
	}
	c.Tick(want)
	if h := c.Horizon(); h < time {
		t.Errorf("%+v: at %d the horizon is %d, not %d", s, want, h, time)
	}
}

func mustNotWait(t *testing.T, p *pace.Pace, time int64) {
	t.Helper()
	s := p.State()
	if n, ok := p.Wait(time); n != 0 || ok {
		t.Errorf("Wait(%d) of %+v: %d, %v", time, s, n, ok)
	}
	mustHave(t, p, s)
}

// P10.2

func TestWaitForWhatIsReached(t *testing.T) {
	for _, s := range []api.Pace{
		first,
		{Den: 1, Clock: 50},
		{Num: 3, Den: 2, Clock: 5},
		{Start: 7, Base: 5, Den: 1, Clock: 100},
		{Start: 1 << 30, Base: 5000, Num: api.MaxRate, Den: 3, Clock: 5001},
		{Num: api.MaxRate, Den: 1, Clock: most},
		{Start: api.MaxTime, Base: 1 << 21, Den: 1, Clock: 1 << 21},
	} {
		p := at(t, s)
		for _, time := range []int64{p.Horizon(), p.Horizon() - 1, p.Horizon() / 2, 1, 0, -1, -1000, least} {
			if time <= p.Horizon() {
				mustWait(t, p, time, s.Clock)
			}
		}
	}
}

func TestWaitForWhatComesLater(t *testing.T) {
	for _, c := range []struct {
		s          api.Pace
		time, want int64
	}{
		{api.Pace{Num: 1, Den: 1}, 1, 1},
		{api.Pace{Num: 1, Den: 1}, 1000, 1000},
		{api.Pace{Num: 1, Den: 1, Clock: 10}, 11, 11},
		{api.Pace{Num: 3, Den: 2}, 1, 1},
		{api.Pace{Num: 3, Den: 2}, 2, 2},
		{api.Pace{Num: 3, Den: 2}, 3, 2},
		{api.Pace{Num: 3, Den: 2}, 4, 3},
		{api.Pace{Num: 3, Den: 2, Clock: 5}, 8, 6},
		{api.Pace{Num: 2, Den: 3}, 1, 2},
		{api.Pace{Num: 2, Den: 3}, 2, 3},
		{api.Pace{Num: 2, Den: 3}, 3, 5},
		{api.Pace{Num: 10, Den: 1}, 1, 1},
		{api.Pace{Num: 10, Den: 1}, 11, 2},
		{api.Pace{Start: 7, Base: 100, Num: 1, Den: 4, Clock: 103}, 8, 104},
		{api.Pace{Start: 7, Base: 100, Num: 1, Den: 4, Clock: 103}, 9, 108},
		{api.Pace{Num: 1, Den: api.MaxRate, Clock: 5}, 1, api.MaxRate},
		{api.Pace{Num: api.MaxRate, Den: 1}, 1, 1},
		{api.Pace{Num: api.MaxRate - 1, Den: api.MaxRate}, 1, 2},
		{api.Pace{Num: api.MaxRate, Den: api.MaxRate - 1}, api.MaxRate - 1, api.MaxRate - 1},
		{api.Pace{Num: api.MaxRate, Den: api.MaxRate - 1}, api.MaxRate, api.MaxRate - 1},
	} {
		mustWait(t, at(t, c.s), c.time, c.want)
	}
}

func TestWaitForMaxTime(t *testing.T) {
	mustWait(t, at(t, api.Pace{Num: 1, Den: 1}), api.MaxTime, api.MaxTime)
	mustWait(t, at(t, api.Pace{Num: 1, Den: 1}), api.MaxTime-1, api.MaxTime-1)
	mustWait(t, at(t, api.Pace{Num: api.MaxRate, Den: 1}), api.MaxTime, api.MaxRate)
	mustWait(t, at(t, api.Pace{Num: 1, Den: api.MaxRate}), api.MaxTime, 1<<60)
	mustWait(t, at(t, api.Pace{Num: 3, Den: 1}), api.MaxTime, api.MaxTime/3+1)
	mustWait(t, at(t, api.Pace{Num: 1, Den: 1, Clock: api.MaxTime - 1}), api.MaxTime, api.MaxTime)
	mustWait(t, at(t, api.Pace{Num: 1, Den: 1, Clock: api.MaxTime}), api.MaxTime, api.MaxTime)
	mustWait(t, at(t, api.Pace{Num: 1, Den: 1, Clock: most}), api.MaxTime, most)
	mustWait(t, at(t, api.Pace{Start: api.MaxTime - 1, Base: 1 << 21, Num: 1, Den: 9, Clock: 1<<21 + 8}), api.MaxTime, 1<<21+9)
}

func TestWaitForWhatIsBeyondMaxTime(t *testing.T) {
	for _, s := range []api.Pace{first, {Num: 1, Den: 1}, {Num: 1, Den: 1, Clock: most}, {Num: api.MaxRate, Den: 1, Clock: 3}, {Start: api.MaxTime, Base: 1 << 21, Den: 1, Clock: 1 << 21}} {
		p := at(t, s)
		for _, time := range []int64{api.MaxTime + 1, api.MaxTime * 2, 1 << 62, most} {
			mustNotWait(t, p, time)
		}
	}
}

func TestWaitAtARateOfNothing(t *testing.T) {
	for _, s := range []api.Pace{first, {Den: 1, Clock: most}, {Start: 7, Base: 5, Den: api.MaxRate, Clock: 100}, {Start: api.MaxTime - 1, Base: 1 << 21, Den: 3, Clock: 1 << 21}} {
		p := at(t, s)
		mustWait(t, p, s.Start, s.Clock)
		mustWait(t, p, s.Start-1, s.Clock)
		mustNotWait(t, p, s.Start+1)
		mustNotWait(t, p, api.MaxTime)
	}
	var zero pace.Pace
	mustWait(t, &zero, 0, 0)
	mustNotWait(t, &zero, 1)
}

func TestWaitWithinReadingsOf63Bits(t *testing.T) {
	for _, c := range []struct {
		s    api.Pace
		last int64
	}{
		{api.Pace{Base: most - 5, Num: 1, Den: 1, Clock: most - 5}, 5},
		{api.Pace{Base: most - 5, Num: 1, Den: 1, Clock: most - 1}, 5},
		{api.Pace{Base: most - 5, Num: 7, Den: 2, Clock: most - 3}, 17},
		{api.Pace{Start: 100, Base: most - 5, Num: 2, Den: 3, Clock: most - 5}, 103},
		{api.Pace{Base: most - 1, Num: api.MaxRate, Den: 1, Clock: most - 1}, api.MaxRate},
		{api.Pace{Base: most - api.MaxRate, Num: 1, Den: api.MaxRate, Clock: most - 4}, 1},
		{api.Pace{Base: most - 1<<60 + 1, Num: 1, Den: api.MaxRate, Clock: most - 1<<60 + 1}, api.MaxTime - 1},
	} {
		p := at(t, c.s)
		n, ok := p.Wait(c.last)
		mustWait(t, p, c.last, n)
		if !ok || n <= most-api.MaxRate {
			t.Errorf("Wait(%d) of %+v: %d, %v", c.last, c.s, n, ok)
		}
		mustNotWait(t, p, c.last+1)
		mustNotWait(t, p, api.MaxTime)
	}
	mustWait(t, at(t, api.Pace{Base: most - 1<<60, Num: 1, Den: api.MaxRate, Clock: most - 1<<60}), api.MaxTime, most)
	mustNotWait(t, at(t, api.Pace{Base: most - 1, Num: 1, Den: 2, Clock: most}), 1)
	mustNotWait(t, at(t, api.Pace{Base: most, Num: api.MaxRate, Den: 1, Clock: most}), 1)
	mustWait(t, at(t, api.Pace{Base: most, Num: api.MaxRate, Den: 1, Clock: most}), 0, most)
}

func TestWaitOfNil(t *testing.T) {
	var p *pace.Pace
	for _, time := range []int64{least, -1, 0, 1, api.MaxTime, api.MaxTime + 1, most} {
		mustNotWait(t, p, time)
	}
}

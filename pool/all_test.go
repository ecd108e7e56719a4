package pool_test

import (
	"slices"
	"testing"

	"riffle/api"
	"riffle/pool"
)

// P6.4

func mustSame(t *testing.T, a, b *pool.Pool, want bool) {
	t.Helper()
	if ab, ba := a.Same(b), b.Same(a); ab != want || ba != want {
		t.Fatalf("Same: %v, and the other way %v, want %v", ab, ba, want)
	}
}

func TestAllOfEachNumberOfMessages(t *testing.T) {
	for _, n := range sizes {
		l := row(n)
		if got := slices.Collect(of(t, l...).All()); !slices.Equal(got, l) {
			t.Errorf("%d: %+v, want %+v", n, got, l)
		}
	}
}

func TestAllIsAsItIsWhenItIsCalled(t *testing.T) {
	for _, n := range sizes[2:] {
		l := row(n)
		p, none := of(t, l...), of(t)
		all, was := p.All(), none.All()
		mustTake(t, p, n-1, l[n-1])
		mustTake(t, p, 0, l[0])
		mustPut(t, p, message(-1, 9, 9, 9), n)
		mustHave(t, p, append(without(l[:n-1], 0), message(-1, 9, 9, 9))...)
		mustPut(t, none, l[0], 0)
		if got := slices.Collect(all); !slices.Equal(got, l) {
			t.Errorf("%+v, want %+v", got, l)
		}
		for range n - 1 {
			p.Take(0)
		}
		mustHave(t, p)
		for i := range n {
			mustPut(t, p, message(int64(i), 4, 4, i), n+1+i)
		}
		if got := slices.Collect(all); !slices.Equal(got, l) {
			t.Errorf("%+v, want %+v", got, l)
		}
		if got := slices.Collect(was); len(got) != 0 {
			t.Errorf("%+v, want none", got)
		}
	}
}

func TestAllWhileThePoolChanges(t *testing.T) {
	more := message(-1, 9, 9, 9)
	for _, n := range sizes[4:] {
		l := row(n)
		p := of(t, l...)
		var got []api.Message
		for m := range p.All() {
			got = append(got, m)
			switch len(got) {
			case 1:
				mustTake(t, p, 0, l[0])
			case 2:
				mustTake(t, p, n-2, l[n-1])
				mustTake(t, p, 2, l[3])
			case 3:
				mustPut(t, p, more, n)
				mustPut(t, p, l[3], n+1)
			}
		}
		if !slices.Equal(got, l) {
			t.Errorf("%+v, want %+v", got, l)
		}
		mustHave(t, p, append(without(l[:n-1], 3)[1:], more, l[3])...)
	}
}

func TestAllWhileThePoolIsEmptied(t *testing.T) {
	for _, n := range sizes {
		l := row(n)
		p := of(t, l...)
		var got []api.Message
		for m := range p.All() {
			got = append(got, m)
			mustTake(t, p, 0, m)
		}
		if !slices.Equal(got, l) {
			t.Errorf("%+v, want %+v", got, l)
		}
		mustHave(t, p)
	}
}

func TestAllWhileThePoolGrows(t *testing.T) {
	l := row(200)
	p := of(t, l...)
	n := 0
	for m := range p.All() {
		mustPut(t, p, m, 200+n)
		n++
	}
	if n != 200 {
		t.Errorf("%d messages, want 200", n)
	}
	mustHave(t, p, append(slices.Clone(l), l...)...)
}

func TestAllIsLeftEarlyAndGoneThroughAgain(t *testing.T) {
	l := row(260)
	p := of(t, l...)
	all := p.All()
	for n := range len(l) + 1 {
		var got []api.Message
		for m := range all {
			if len(got) == n {
				break
			}
			got = append(got, m)
		}
		if !slices.Equal(got, l[:n]) {
			t.Errorf("%+v, want %+v", got, l[:n])
		}
	}
	for range 2 {
		if got := slices.Collect(all); !slices.Equal(got, l) {
			t.Errorf("%+v, want %+v", got, l)
		}
	}
	mustHave(t, p, l...)
}

func TestAllWithinAll(t *testing.T) {
	l := row(5)
	all := of(t, l...).All()
	n := 0
	for a := range all {
		for b := range all {
			if a != l[n/5] || b != l[n%5] {
				t.Errorf("%d: %+v and %+v", n, a, b)
			}
			n++
		}
	}
	if n != 25 {
		t.Errorf("%d pairs, want 25", n)
	}
}

func TestAllIsNotAskedAgainWhenItIsLeft(t *testing.T) {
	asked := 0
	of(t, row(5)...).All()(func(api.Message) bool {
		asked++
		return asked < 2
	})
	if asked != 2 {
		t.Errorf("asked %d times, want 2", asked)
	}
}

func TestAllOfNone(t *testing.T) {
	for _, p := range []*pool.Pool{nil, {}, pool.New()} {
		if p.All() == nil {
			t.Fatal("All is nil")
		}
		for m := range p.All() {
			t.Errorf("%+v", m)
		}
	}
}

func TestCopyGoesOnApart(t *testing.T) {
	more, other := message(55, 9, 9, 9), message(-5, 8, 8, 8)
	for _, n := range sizes[4:] {
		l := row(n)
		p := of(t, l...)
		c := p.Copy()
		mustHave(t, c, l...)
		mustTake(t, p, 0, l[0])
		mustTake(t, p, 2, l[3])
		mustPut(t, p, more, n)
		mustHave(t, c, l...)
		mustTake(t, c, n-1, l[n-1])
		mustTake(t, c, 3, l[3])
		mustPut(t, c, other, n)
		mustPut(t, c, more, n+1)
		mustTake(t, c, 1, l[1])
		mustHave(t, p, append(without(l, 3)[1:], more)...)
		mustHave(t, c, append(append([]api.Message{l[0]}, without(l, 3)[2:n-2]...), other, more)...)
	}
}

func TestCopyHasItsOwnNumbers(t *testing.T) {
	l := row(9)
	p := of(t, l[:3]...)
	mustTake(t, p, 1, l[1])
	c := p.Copy()
	mustPut(t, c, l[3], 3)
	mustPut(t, c, l[4], 4)
	mustPut(t, p, l[5], 3)
	d := c.Copy()
	mustPut(t, p, l[6], 4)
	mustPut(t, p, l[7], 5)
	mustPut(t, d, l[8], 5)
	mustPut(t, c, l[8], 5)
	mustHave(t, p, l[0], l[2], l[5], l[6], l[7])
	mustHave(t, c, l[0], l[2], l[3], l[4], l[8])
	mustSame(t, c, d, true)
}

func TestCopyOfAFullPool(t *testing.T) {
	l := row(api.MaxPool)
	p := of(t, l...)
	c := p.Copy()
	mustNotPut(t, c, l[9], api.ErrFull)
	mustTake(t, c, 40000, l[40000])
	mustNotPut(t, p, l[9], api.ErrFull)
	mustPut(t, c, l[9], api.MaxPool)
	mustHave(t, p, l...)
	mustHave(t, c, append(without(l, 40000), l[9])...)
}

func TestCopyOfNone(t *testing.T) {
	for _, p := range []*pool.Pool{{}, pool.New()} {
		c := p.Copy()
		if c == nil {
			t.Fatal("a copy is nil")
		}
		mustSame(t, p, c, true)
		mustPut(t, c, message(1, 1, 1, 1), 0)
		mustHave(t, p)
		mustPut(t, p, message(2, 1, 1, 1), 0)
		mustHave(t, c, message(1, 1, 1, 1))
	}
	var none *pool.Pool
	if none.Copy() != nil {
		t.Error("a copy of nil")
	}
}

func TestSameOfEachNumberOfMessages(t *testing.T) {
	for _, n := range sizes {
		l := row(n)
		p := of(t, l...)
		mustSame(t, p, of(t, l...), true)
		mustSame(t, p, p, true)
		mustSame(t, p, p.Copy(), true)
		mustHave(t, p, l...)
	}
}

// put puts so many messages, and takes all of them again.
func put(t *testing.T, p *pool.Pool, n int) {
	t.Helper()
	for range n {
		if _, err := p.Put(message(7, 7, 7, 7)); err != api.OK {
			t.Fatal(err)
		}
	}
	for range n {
		mustTake(t, p, p.Len()-1, message(7, 7, 7, 7))
	}
}

func TestSameAsksForHowManyWerePut(t *testing.T) {
	l := row(3)
	a, b := of(t, l...), of(t, l...)
	put(t, a, 1)
	mustHave(t, a, l...)
	mustSame(t, a, b, false)
	put(t, b, 1)
	mustSame(t, a, b, true)
	c, d := of(t), of(t)
	put(t, c, 1)
	mustSame(t, c, d, false)
	mustSame(t, c, &pool.Pool{}, false)
	put(t, d, 1)
	mustSame(t, c, d, true)
	put(t, d, 300)
	put(t, c, 299)
	mustSame(t, c, d, false)
	put(t, c, 1)
	mustSame(t, c, d, true)
}

func TestSameWhateverWasPutAndTakenOnTheWay(t *testing.T) {
	l := row(500)
	extra := row(700)[500:]
	a, b := of(t, append(slices.Clone(extra), l...)...), of(t, append(slices.Clone(l), extra...)...)
	mustSame(t, a, b, false)
	for i, m := range extra {
		mustSame(t, a, b, false)
		mustTake(t, a, 0, m)
		mustTake(t, b, 699-i, extra[199-i])
	}
	mustSame(t, a, b, true)
	c := pool.New()
	for i, m := range l {
		mustPut(t, c, m, i+min(i, 200))
		if i < 200 {
			mustPut(t, c, extra[i], 2*i+1)
			mustTake(t, c, i+1, extra[i])
		}
	}
	mustHave(t, c, l...)
	mustSame(t, a, c, true)
	mustSame(t, b, c, true)
	for i := len(l) - 1; i >= 0; i -= 7 {
		mustTake(t, a, i, l[i])
		mustSame(t, a, b, false)
		mustTake(t, b, i, l[i])
		mustSame(t, a, b, true)
	}
}

func TestSameAsksForTheOrder(t *testing.T) {
	l := row(260)
	for i := range len(l) - 1 {
		other := slices.Clone(l)
		other[i], other[i+1] = other[i+1], other[i]
		mustSame(t, of(t, l...), of(t, other...), false)
	}
	other := slices.Clone(l)
	slices.Reverse(other)
	mustSame(t, of(t, l...), of(t, other...), false)
	a, b := of(t, l[0], l[1], l[0]), of(t, l[0], l[1], l[0])
	mustTake(t, a, 0, l[0])
	mustTake(t, b, 2, l[0])
	mustSame(t, a, b, false)
}

func TestSameOfPoolsThatPartInOneMessage(t *testing.T) {
	l := row(140)
	for _, i := range []int{0, 1, 70, 127, 128, 139} {
		for _, m := range parted(l[i]) {
			other := slices.Clone(l)
			other[i] = m
			mustSame(t, of(t, l...), of(t, other...), false)
		}
		mustSame(t, of(t, l...), of(t, without(l, i)...), false)
		mustSame(t, of(t, l...), of(t, slices.Insert(slices.Clone(l), i, l[i])...), false)
	}
}

func TestSameOfAsManyPutAndNotAsManyThere(t *testing.T) {
	l := row(140)
	for _, i := range []int{0, 70, 127, 128, 139} {
		a, b := of(t, l...), of(t, l...)
		mustTake(t, b, i, l[i])
		mustSame(t, a, b, false)
	}
	m := message(1, 1, 1, 1)
	a, b := of(t, m, m), of(t, m, m)
	mustTake(t, b, 0, m)
	mustSame(t, a, b, false)
	mustTake(t, a, 1, m)
	mustSame(t, a, b, true)
}

func TestSameOfNilAndNone(t *testing.T) {
	var none *pool.Pool
	mustSame(t, none, nil, true)
	mustSame(t, none, pool.New(), false)
	mustSame(t, none, &pool.Pool{}, false)
	mustSame(t, none, of(t, row(1)...), false)
	mustSame(t, pool.New(), pool.New(), true)
	mustSame(t, pool.New(), &pool.Pool{}, true)
	mustSame(t, pool.New(), of(t, row(1)...), false)
	mustSame(t, pool.New(), of(t, api.Message{}), false)
}

func TestSameAndCopyAndAllChangeNothing(t *testing.T) {
	a, b := of(t, row(200)...), of(t, row(199)...)
	for range 3 {
		mustSame(t, a, b, false)
		mustSame(t, a, nil, false)
		mustSame(t, a, a.Copy(), true)
		for range b.All() {
			break
		}
	}
	mustHave(t, a, row(200)...)
	mustHave(t, b, row(199)...)
	mustPut(t, a, message(1, 1, 1, 1), 200)
	mustPut(t, b, message(1, 1, 1, 1), 199)
}

func TestWhatWasRefusedLeavesTheSame(t *testing.T) {
	p := of(t, row(9)...)
	was := p.Copy()
	mustHaveNoPlace(t, p, -1, api.ErrNone)
	mustHaveNoPlace(t, p, 9, api.ErrNone)
	mustSame(t, p, was, true)
	full := of(t, row(api.MaxPool)...)
	was = full.Copy()
	mustNotPut(t, full, message(1, 1, 1, 1), api.ErrFull)
	mustHaveNoPlace(t, full, api.MaxPool, api.ErrNone)
	mustSame(t, full, was, true)
}

package outbox_test

import (
	"math"
	"strings"
	"testing"

	"riffle/api"
	"riffle/outbox"
)

func mustBeSame(t *testing.T, o, p *outbox.Outbox, want bool) {
	t.Helper()
	if o.Same(p) != want || p.Same(o) != want {
		t.Errorf("Same of %q and %q: %v, %v, want %v", texts(o), texts(p), o.Same(p), p.Same(o), want)
	}
}

// P12.3: Copy

func TestCopiesAreTheSame(t *testing.T) {
	l := []string{"abc", "d", "ef"}
	for n := range 7 {
		o := taken(of(t, 4, l...), n)
		left := texts(o)
		c := o.Copy()
		if c == o {
			t.Fatal("a copy is the outbox itself")
		}
		mustHave(t, c, 4-len(left), int64(n), left...)
		mustHave(t, o, 4-len(left), int64(n), left...)
		mustBeSame(t, o, c, true)
	}
}

func TestCopyOfNil(t *testing.T) {
	var o *outbox.Outbox
	if c := o.Copy(); c != nil {
		t.Errorf("a copy of nil is %+v", c)
	}
}

func TestCopyOfAZeroOne(t *testing.T) {
	c := new(outbox.Outbox).Copy()
	if c == nil {
		t.Fatal("a copy is nil")
	}
	mustHave(t, c, 0, 0)
	mustNotPut(t, c, []byte("a"), api.ErrFull)
	mustBeSame(t, c, new(outbox.Outbox), true)
}

func TestCopiesGoOnApart(t *testing.T) {
	o := of(t, 4, "abc", "de")
	c := o.Copy()
	mustTake(t, c, 4, "abcd")
	mustHave(t, o, 2, 0, "abc", "de")
	mustPut(t, c, "C")
	mustHave(t, o, 2, 0, "abc", "de")
	mustPut(t, o, "O1")
	mustHave(t, c, 2, 4, "e", "C")
	mustTake(t, o, 1, "a")
	mustPut(t, o, "O2")
	mustNotPut(t, o, []byte("O3"), api.ErrFull)
	mustHave(t, c, 2, 4, "e", "C")
	mustHave(t, o, 0, 1, "bc", "de", "O1", "O2")
	mustTake(t, c, 9, "eC")
	mustTake(t, o, 9, "bcdeO1O2")
	mustHave(t, c, 4, 6)
	mustHave(t, o, 4, 9)
}

func TestCopiesOfATextThatIsTakenInPartGoOnApart(t *testing.T) {
	o := taken(of(t, 2, "abcdef", "g"), 2)
	c := o.Copy()
	mustTake(t, o, 1, "c")
	mustHave(t, c, 0, 2, "cdef", "g")
	mustTake(t, c, 3, "cde")
	mustHave(t, o, 0, 3, "def", "g")
	clear(o.Take(3))
	mustPut(t, o, "OO")
	mustHave(t, c, 0, 5, "f", "g")
	clear(c.Take(2))
	mustPut(t, c, "CC")
	mustHave(t, o, 0, 6, "g", "OO")
	mustHave(t, c, 1, 7, "CC")
}

// Did both keep their texts in one list, each would put over what the other one did.
func TestCopiesOfManyTextsGoOnApart(t *testing.T) {
	for n := range 20 {
		o := of(t, 40)
		var l []string
		for i := range n {
			l = append(l, strings.Repeat("x", 1+i%3))
			mustPut(t, o, l[i])
		}
		c := o.Copy()
		mustPut(t, o, "O")
		mustPut(t, c, "C")
		mustPut(t, c.Copy(), "D")
		mustHave(t, o, 39-n, 0, append(l[:n:n], "O")...)
		mustHave(t, c, 39-n, 0, append(l[:n:n], "C")...)
	}
}

func TestCopiesGoOnAlike(t *testing.T) {
	o := taken(of(t, 4, "abc", "de", "f"), 1)
	c := o.Copy()
	for _, p := range []*outbox.Outbox{o, c} {
		mustTake(t, p, 3, "bcd")
		mustPut(t, p, "gh")
		mustTake(t, p, 1, "e")
		mustHave(t, p, 2, 5, "f", "gh")
	}
	mustBeSame(t, o, c, true)
}

// P12.3: Same

func TestSameOfNil(t *testing.T) {
	mustBeSame(t, nil, nil, true)
	for _, o := range []*outbox.Outbox{new(outbox.Outbox), of(t, 0), of(t, -1), of(t, 4), of(t, 4, "a"), taken(of(t, 4, "a"), 1)} {
		mustBeSame(t, nil, o, false)
		mustBeSame(t, o, o, true)
	}
}

func TestSameTellsTheRoom(t *testing.T) {
	rooms := []int{0, 1, 2, 3, 256, math.MaxInt}
	for i, a := range rooms {
		for j, b := range rooms {
			mustBeSame(t, of(t, a), of(t, b), i == j)
		}
	}
	mustBeSame(t, of(t, 2, "ab", "c"), of(t, 3, "ab", "c"), false)
	mustBeSame(t, taken(of(t, 1, "ab"), 2), taken(of(t, 2, "ab"), 2), false)
	for _, most := range []int{-1, -2, math.MinInt} {
		mustBeSame(t, of(t, most), of(t, 0), true)
		mustBeSame(t, of(t, most), new(outbox.Outbox), true)
		mustBeSame(t, of(t, most), of(t, 1), false)
	}
}

func TestSameTellsEachByteThatWaits(t *testing.T) {
	l := []string{"abc", "d", "ef"}
	for i, s := range l {
		for at := range s {
			o := append(l[:i:i], s[:at]+"!"+s[at+1:])
			mustBeSame(t, of(t, 4, l...), of(t, 4, append(o, l[i+1:]...)...), false)
		}
	}
	mustBeSame(t, of(t, 4, l...), of(t, 4, l...), true)
	mustBeSame(t, of(t, 4, l...), of(t, 4, l[:2]...), false)
	mustBeSame(t, of(t, 4, l...), of(t, 4, "abc", "d", "efg"), false)
	mustBeSame(t, of(t, 4, l...), of(t, 4, "d", "abc", "ef"), false)
	mustBeSame(t, of(t, 4), of(t, 4, "a"), false)
}

func TestSameTellsHowBytesAreParted(t *testing.T) {
	parted := [][]string{{"abcd"}, {"a", "bcd"}, {"ab", "cd"}, {"abc", "d"}, {"a", "b", "cd"}, {"a", "bc", "d"}, {"ab", "c", "d"}, {"a", "b", "c", "d"}}
	for i, a := range parted {
		for j, b := range parted {
			mustBeSame(t, of(t, 4, a...), of(t, 4, b...), i == j)
		}
	}
}

func TestSameTellsHowMuchWasTaken(t *testing.T) {
	for a := range 7 {
		for b := range 7 {
			o, p := taken(of(t, 4, "abc", "d", "ef"), a), taken(of(t, 4, "abc", "d", "ef"), b)
			mustBeSame(t, o, p, a == b)
			o, p = taken(of(t, 4, "aaaaaaaa"), a), taken(of(t, 4, "aaaaaaaa"), b)
			mustBeSame(t, o, p, a == b)
		}
	}
	mustBeSame(t, taken(of(t, 2, "a", "b"), 1), of(t, 2, "b"), false)
	mustBeSame(t, taken(of(t, 2, "ab"), 1), of(t, 2, "b"), false)
	mustBeSame(t, taken(of(t, 2, "xy", "b"), 2), taken(of(t, 2, "x", "b"), 1), false)
	mustBeSame(t, taken(of(t, 2, "a"), 1), of(t, 2), false)
}

func TestSameByOtherSteps(t *testing.T) {
	want := taken(of(t, 2, "abcd", "ef"), 3)
	mustHave(t, want, 0, 3, "d", "ef")

	// What was taken need not be the same, nor parted in the same way, nor be what is left of one text.
	mustBeSame(t, want, taken(of(t, 2, "wxyd", "ef"), 3), true)
	o := taken(of(t, 2, "xyz", "d"), 3)
	mustPut(t, o, "ef")
	mustBeSame(t, want, o, true)

	o = of(t, 2, "a", "b")
	mustNotPut(t, o, []byte("c"), api.ErrFull)
	mustTake(t, o, 1, "a")
	mustPut(t, o, "cd")
	mustTake(t, o, 0, "")
	mustTake(t, o, 2, "bc")
	mustBeSame(t, want, o, false)
	mustNotPut(t, o, nil, api.ErrArg)
	mustPut(t, o, "ef")
	mustBeSame(t, want, o, true)
	mustTake(t, o, -1, "")
	mustBeSame(t, want, o.Copy(), true)

	for _, p := range []*outbox.Outbox{want, o} {
		mustTake(t, p, 2, "de")
		mustPut(t, p, "g")
		mustBeSame(t, want, o, p == o)
	}
	mustTake(t, o, 9, "fg")
	mustTake(t, want, 9, "fg")
	mustBeSame(t, want, o, true)
	mustBeSame(t, want, taken(of(t, 2, "1234567"), 7), true)
}

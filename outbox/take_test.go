package outbox_test

import (
	"bytes"
	"math"
	"strings"
	"testing"

	"riffle/api"
	"riffle/outbox"
)

// P12.2

func TestTakeOfEachNumber(t *testing.T) {
	l := []string{"abc", "d", "ef", "ghij"}
	all := strings.Join(l, "")
	for n := range len(all) + 1 {
		o := of(t, 5, l...)
		mustTake(t, o, n, all[:n])
		left, rest := []string{}, n
		for _, s := range l {
			if rest < len(s) {
				left = append(left, s[rest:])
			}
			rest = max(rest-len(s), 0)
		}
		mustHave(t, o, 5-len(left), int64(n), left...)
		mustTake(t, o, len(all), all[n:])
		mustHave(t, o, 5, int64(len(all)))
	}
}

func TestTakeOfNone(t *testing.T) {
	for _, n := range []int{0, -1, -2, -100, math.MinInt32, math.MinInt} {
		o := of(t, 3, "ab", "c")
		if b := o.Take(n); len(b) != 0 {
			t.Errorf("Take(%d): %q, want nothing", n, b)
		}
		mustHave(t, o, 1, 0, "ab", "c")
		mustTake(t, o, 1, "a")
		mustTake(t, o, n, "")
		mustHave(t, o, 1, 1, "b", "c")
	}
}

func TestTakeOfMoreThanWaits(t *testing.T) {
	for _, n := range []int{4, 5, 100, math.MaxInt32, 1 << 32, math.MaxInt} {
		o := of(t, 3, "ab", "c")
		mustTake(t, o, n, "abc")
		mustHave(t, o, 3, 3)
		mustPut(t, o, "d")
		mustTake(t, o, n, "d")
		mustHave(t, o, 3, 4)
	}
}

func TestTakeOfNothingThatWaits(t *testing.T) {
	for _, o := range []*outbox.Outbox{new(outbox.Outbox), of(t, 0), of(t, 3), taken(of(t, 3, "ab"), 2)} {
		room, sent := o.Room(), o.Sent()
		for _, n := range []int{math.MinInt, -1, 0, 1, 2, 100, math.MaxInt} {
			if b := o.Take(n); len(b) != 0 {
				t.Errorf("Take(%d): %q, want nothing", n, b)
			}
			mustHave(t, o, room, sent)
		}
	}
}

func TestTakeOfATextInParts(t *testing.T) {
	text := strings.Repeat("0123456789", 100)
	for _, n := range []int{1, 2, 3, 7, 10, 333, 999, 1000, 1001} {
		o := of(t, 2, text, "end")
		at := 0
		for ; at+n < len(text); at += n {
			mustTake(t, o, n, text[at:at+n])
			mustStand(t, o, 0, 2, len(text)-at-n+3, int64(at+n))
		}
		mustTake(t, o, len(text)-at, text[at:])
		mustHave(t, o, 1, int64(len(text)), "end")
	}
}

func TestTakeOverManyTexts(t *testing.T) {
	var l []string
	for i := range 1000 {
		l = append(l, strings.Repeat(string(rune('a'+i%26)), 1+i*7%5))
	}
	all := strings.Join(l, "")
	for _, n := range []int{1, 2, 3, 64, 1000, len(all) - 1, len(all), len(all) + 1} {
		o := of(t, 1000, l...)
		var got []byte
		for o.Left() > 0 {
			b := o.Take(n)
			got = append(got, b...)
			if len(b) != n && o.Left() > 0 || o.Left() != len(all)-len(got) || o.Sent() != int64(len(got)) {
				t.Fatalf("Take(%d): %d bytes; Left %d, Sent %d behind %d", n, len(b), o.Left(), o.Sent(), len(got))
			}
		}
		if string(got) != all {
			t.Errorf("by %d: what was taken is not what was put", n)
		}
		mustHave(t, o, 1000, int64(len(all)))
	}
}

func TestTakeOfManySmallTexts(t *testing.T) {
	const n = 300000
	o := outbox.New(n)
	for i := range n {
		mustPut(t, o, string([]byte{byte(i)}))
	}
	for i := range n {
		if b := o.Take(1); len(b) != 1 || b[0] != byte(i) || o.Len() != n-i-1 || o.Room() != i+1 {
			t.Fatalf("Take behind %d: %q; Len %d, Room %d", i, b, o.Len(), o.Room())
		}
	}
	mustHave(t, o, n, n)
}

func TestSentBehindEachTake(t *testing.T) {
	o := of(t, 3, "abc", "de")
	for _, x := range []struct {
		n    int
		want int64
	}{{0, 0}, {-1, 0}, {2, 2}, {0, 2}, {1, 3}, {-5, 3}, {9, 5}, {9, 5}, {math.MaxInt, 5}} {
		o.Take(x.n)
		if n := o.Sent(); n != x.want {
			t.Errorf("Sent behind Take(%d): %d, want %d", x.n, n, x.want)
		}
	}
	mustPut(t, o, "fg")
	if n := o.Sent(); n != 5 {
		t.Errorf("Sent behind a Put: %d, want 5", n)
	}
	mustTake(t, o, 9, "fg")
	if n := o.Sent(); n != 7 {
		t.Errorf("Sent: %d, want 7", n)
	}
}

// What is handed in is not kept, and what is answered is the taker's own (P12.4: what comes later changes nothing of it).

func TestWhoChangesWhatHePutChangesNothing(t *testing.T) {
	b := []byte("abcd")
	o := of(t, 4)
	for range 3 {
		if err := o.Put(b[1:3]); err != api.OK {
			t.Fatal(err)
		}
		for i := range b {
			b[i]++
		}
	}
	if string(b) != "defg" {
		t.Errorf("what was put is %q now", b)
	}
	mustHave(t, o, 1, 0, "bc", "cd", "de")
	mustTake(t, o, 3, "bcc")
	clear(b)
	mustHave(t, o, 2, 3, "d", "de")
}

func TestPutChangesNothingOfWhatItIsGiven(t *testing.T) {
	whole := []byte("abcdef")
	o := of(t, 3, "xy")
	if err := o.Put(whole[:3]); err != api.OK {
		t.Fatal(err)
	}
	mustPut(t, o, "uvw")
	o.Take(4)
	clear(o.Take(9))
	if string(whole) != "abcdef" {
		t.Errorf("what was put is %q now", whole)
	}
}

func TestWhoChangesWhatHeTookChangesNothing(t *testing.T) {
	l := []string{"abc", "d", "ef", "ghij"}
	all := strings.Join(l, "")
	for n := range len(all) + 1 {
		o := of(t, 5, l...)
		c := o.Copy()
		b := o.Take(n)
		rest := texts(o)
		clear(b)
		_ = append(b, bytes.Repeat([]byte("!"), 100)...)
		_ = append(b[:0], bytes.Repeat([]byte("?"), cap(b))...)
		mustHave(t, o, 5-len(rest), int64(n), rest...)
		mustTake(t, o, 99, all[n:])
		mustHave(t, c, 1, 0, l...)
	}
}

func TestWhatWasTakenStays(t *testing.T) {
	o := of(t, 4, "abc", "d", "ef")
	first := o.Take(2)
	second := o.Take(3)
	mustPut(t, o, "XYZ")
	mustPut(t, o, "UVW")
	third := o.Take(2)
	clear(second)
	mustPut(t, o, "123")
	fourth := o.Take(99)
	mustPut(t, o, "4567")
	clear(o.Take(2))
	if string(first) != "ab" || string(second) != "\x00\x00\x00" || string(third) != "fX" || string(fourth) != "YZUVW123" {
		t.Errorf("what was taken is %q, %q, %q, %q now", first, second, third, fourth)
	}
	mustHave(t, o, 3, 17, "67")
}

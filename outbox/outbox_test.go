package outbox_test

import (
	"bytes"
	"math"
	"strings"
	"testing"

	"riffle/api"
	"riffle/outbox"
)

// of is an outbox with room for so many, in which these texts were put.
func of(t *testing.T, most int, l ...string) *outbox.Outbox {
	t.Helper()
	o := outbox.New(most)
	if o == nil {
		t.Fatal("New is nil")
	}
	for _, s := range l {
		mustPut(t, o, s)
	}
	return o
}

// taken is an outbox of which so many bytes were taken.
func taken(o *outbox.Outbox, n int) *outbox.Outbox {
	o.Take(n)
	return o
}

func mustPut(t *testing.T, o *outbox.Outbox, s string) {
	t.Helper()
	if err := o.Put([]byte(s)); err != api.OK {
		t.Fatalf("Put(%q): %v", s, err)
	}
}

// mustNotPut asks for a refusal that changes nothing.
func mustNotPut(t *testing.T, o *outbox.Outbox, b []byte, want api.Errno) {
	t.Helper()
	was := o.Copy()
	if err := o.Put(b); err != want {
		t.Fatalf("Put(%q): %v, want %v", b, err, want)
	}
	mustHave(t, o, was.Room(), was.Sent(), texts(was)...)
}

func mustTake(t *testing.T, o *outbox.Outbox, n int, want string) {
	t.Helper()
	if b := o.Take(n); string(b) != want {
		t.Fatalf("Take(%d): %q, want %q", n, b, want)
	}
}

func mustStand(t *testing.T, o *outbox.Outbox, room, length, left int, sent int64) {
	t.Helper()
	if o.Room() != room || o.Len() != length || o.Left() != left || o.Sent() != sent {
		t.Fatalf("Room %d, Len %d, Left %d, Sent %d; want %d, %d, %d, %d", o.Room(), o.Len(), o.Left(), o.Sent(), room, length, left, sent)
	}
}

// texts is what waits, parted where a byte is the last one of its text.
func texts(o *outbox.Outbox) []string {
	var l []string
	text := ""
	for o = o.Copy(); o.Left() > 0; {
		waited := o.Len()
		text += string(o.Take(1))
		if o.Len() < waited {
			l, text = append(l, text), ""
		}
	}
	return l
}

// mustHave asks for just these texts, and how they are parted, in each way in which an outbox tells them.
func mustHave(t *testing.T, o *outbox.Outbox, room int, sent int64, want ...string) {
	t.Helper()
	all := strings.Join(want, "")
	mustStand(t, o, room, len(want), len(all), sent)
	if got := texts(o); strings.Join(got, "|") != strings.Join(want, "|") {
		t.Fatalf("what waits: %q, want %q", got, want)
	}
	if b := o.Copy().Take(len(all)); string(b) != all {
		t.Fatalf("all that waits: %q, want %q", b, all)
	}
	mustStand(t, o, room, len(want), len(all), sent)
}

// The chapter's examples.

func TestExamples(t *testing.T) {
	o := outbox.New(2)
	for _, x := range []struct {
		text string
		want api.Errno
	}{{"ab", api.OK}, {"c", api.OK}, {"d", api.ErrFull}} {
		if err := o.Put([]byte(x.text)); err != x.want {
			t.Errorf("Put(%q): %v, want %v", x.text, err, x.want)
		}
	}
	mustTake(t, o, 1, "a")
	if n := o.Room(); n != 0 {
		t.Errorf("Room: %d, want 0", n)
	}
	mustTake(t, o, 1, "b")
	if n := o.Room(); n != 1 {
		t.Errorf("Room: %d, want 1", n)
	}
	mustTake(t, o, 9, "c")
}

// P12.1

func TestNewHasRoomForSoMany(t *testing.T) {
	for _, most := range []int{0, 1, 2, 7, api.MaxOut, 1000} {
		o := of(t, most)
		mustHave(t, o, most, 0)
		var l []string
		for i := range most {
			s := strings.Repeat(string(rune('a'+i%26)), 1+i%3)
			mustPut(t, o, s)
			l = append(l, s)
			if n := o.Room(); n != most-i-1 {
				t.Fatalf("Room behind %d of %d: %d", i+1, most, n)
			}
		}
		mustHave(t, o, 0, 0, l...)
		mustNotPut(t, o, []byte("z"), api.ErrFull)
	}
}

func TestNewOfMoreThanEverWaits(t *testing.T) {
	for _, most := range []int{math.MaxInt32, math.MaxInt} {
		o := of(t, most)
		mustHave(t, o, most, 0)
		mustPut(t, o, "ab")
		mustPut(t, o, "c")
		mustHave(t, o, most-2, 0, "ab", "c")
		mustTake(t, o, 2, "ab")
		mustHave(t, o, most-1, 2, "c")
	}
}

func TestNewOfBelow0HasNoRoom(t *testing.T) {
	for _, most := range []int{-1, -2, -256, math.MinInt32, math.MinInt} {
		o := of(t, most)
		mustHave(t, o, 0, 0)
		mustNotPut(t, o, []byte("a"), api.ErrFull)
		mustNotPut(t, o, nil, api.ErrArg)
		mustTake(t, o, 1, "")
		mustHave(t, o, 0, 0)
	}
}

func TestNewOnesHaveNothingInCommon(t *testing.T) {
	o, p := of(t, 2), of(t, 2)
	mustPut(t, o, "ab")
	mustHave(t, p, 2, 0)
	mustPut(t, p, "c")
	mustTake(t, o, 1, "a")
	mustHave(t, p, 1, 0, "c")
	mustHave(t, o, 1, 1, "b")
}

func TestPutWaitsBehindAllOthers(t *testing.T) {
	o := of(t, 4)
	mustPut(t, o, "abc")
	mustHave(t, o, 3, 0, "abc")
	mustPut(t, o, "d")
	mustHave(t, o, 2, 0, "abc", "d")
	mustPut(t, o, "abc")
	mustHave(t, o, 1, 0, "abc", "d", "abc")
	mustTake(t, o, 2, "ab")
	mustPut(t, o, "ef")
	mustHave(t, o, 0, 2, "c", "d", "abc", "ef")
}

func TestPutOfAnyBytes(t *testing.T) {
	every := make([]byte, 256)
	for i := range every {
		every[i] = byte(i)
	}
	l := []string{"\x00", "\xff", "\x00\x00", string(every), strings.Repeat("riffle ", 3000), "\n"}
	o := of(t, len(l), l...)
	mustHave(t, o, 0, 0, l...)
	for _, s := range l {
		mustTake(t, o, len(s), s)
	}
	mustStand(t, o, len(l), 0, 0, int64(len(strings.Join(l, ""))))
}

func TestRoomLenAndLeftAtEachByte(t *testing.T) {
	o := of(t, 4, "abc", "d", "ef")
	mustStand(t, o, 1, 3, 6, 0)
	for i, x := range []struct {
		b            string
		room, length int
	}{{"a", 1, 3}, {"b", 1, 3}, {"c", 2, 2}, {"d", 3, 1}, {"e", 3, 1}, {"f", 4, 0}} {
		mustTake(t, o, 1, x.b)
		mustStand(t, o, x.room, x.length, 5-i, int64(i+1))
	}
}

func TestATextThatIsTakenInPartTakesUpRoom(t *testing.T) {
	o := of(t, 1, "abc")
	for _, b := range []string{"a", "b"} {
		mustTake(t, o, 1, b)
		mustNotPut(t, o, []byte("d"), api.ErrFull)
	}
	mustTake(t, o, 1, "c")
	mustPut(t, o, "d")
	mustHave(t, o, 0, 3, "d")
	mustNotPut(t, o, []byte("e"), api.ErrFull)
}

// P12.1: errors, and which one is ahead.

func TestPutOfNoBytes(t *testing.T) {
	for _, b := range [][]byte{nil, {}, make([]byte, 0, 9), []byte("abc")[:0]} {
		mustNotPut(t, of(t, 3), b, api.ErrArg)
		mustNotPut(t, of(t, 3, "ab"), b, api.ErrArg)
		mustNotPut(t, taken(of(t, 3, "ab", "c"), 1), b, api.ErrArg)
		mustNotPut(t, of(t, 2, "ab", "c"), b, api.ErrArg)
		mustNotPut(t, of(t, 0), b, api.ErrArg)
		mustNotPut(t, new(outbox.Outbox), b, api.ErrArg)
	}
}

func TestPutWithoutRoom(t *testing.T) {
	for _, s := range []string{"a", "\x00", strings.Repeat("a", 5000)} {
		mustNotPut(t, of(t, 0), []byte(s), api.ErrFull)
		mustNotPut(t, of(t, 1, "ab"), []byte(s), api.ErrFull)
		mustNotPut(t, of(t, 2, "ab", "c"), []byte(s), api.ErrFull)
		mustNotPut(t, taken(of(t, 2, "ab", "c"), 1), []byte(s), api.ErrFull)
	}
}

func TestWhatIsRefusedComesLater(t *testing.T) {
	o := of(t, 2, "ab", "c")
	mustNotPut(t, o, []byte("d"), api.ErrFull)
	mustNotPut(t, o, nil, api.ErrArg)
	mustTake(t, o, 2, "ab")
	mustPut(t, o, "d")
	mustHave(t, o, 0, 2, "c", "d")
	mustTake(t, o, 9, "cd")
	mustHave(t, o, 2, 4)
}

func TestNilOnes(t *testing.T) {
	var o *outbox.Outbox
	for _, b := range [][]byte{nil, {}, []byte("a"), bytes.Repeat([]byte("a"), 300)} {
		if err := o.Put(b); err != api.ErrNil {
			t.Errorf("Put(%q): %v, want %v", b, err, api.ErrNil)
		}
	}
	for _, n := range []int{math.MinInt, -1, 0, 1, 300, math.MaxInt} {
		if b := o.Take(n); b != nil {
			t.Errorf("Take(%d): %q, want nothing", n, b)
		}
	}
	mustStand(t, o, 0, 0, 0, 0)
}

// The Types: a zero Outbox is one without room.

func TestAZeroOutboxIsOneWithoutRoom(t *testing.T) {
	steps := []func(o *outbox.Outbox){
		func(o *outbox.Outbox) {},
		func(o *outbox.Outbox) { o.Put([]byte("a")) },
		func(o *outbox.Outbox) { o.Put(nil) },
		func(o *outbox.Outbox) { o.Take(4); o.Take(-4) },
		func(o *outbox.Outbox) { o.Copy().Put([]byte("a")) },
	}
	for i, step := range steps {
		var zero outbox.Outbox
		o := outbox.New(0)
		step(&zero)
		step(o)
		mustHave(t, &zero, 0, 0)
		mustHave(t, o, 0, 0)
		mustNotPut(t, &zero, []byte("a"), api.ErrFull)
		mustNotPut(t, &zero, nil, api.ErrArg)
		if !zero.Same(o) || !o.Same(&zero) || !zero.Copy().Same(o) {
			t.Errorf("step %d: a zero one is not the same as one without room", i)
		}
	}
}

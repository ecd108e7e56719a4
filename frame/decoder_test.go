package frame_test

import (
	"bytes"
	"encoding/binary"
	"errors"
	"math/rand"
	"slices"
	"strconv"
	"testing"

	"riffle/api"
	"riffle/frame"
)

// told is all that Next tells, up to where there is nothing or an error.
func told(d *frame.Decoder) ([]string, api.Errno) {
	var l []string
	for {
		b, ok, e := d.Next()
		if !ok {
			return l, e
		}
		l = append(l, string(b))
	}
}

func pushed(chunks ...[]byte) *frame.Decoder {
	d := frame.New()
	for _, b := range chunks {
		d.Push(b)
	}
	return d
}

// wrongSum is a payload's frame, with one bit of the sum turned over.
func wrongSum(payload string, bit int) []byte {
	b := byWords([]byte(payload))
	b[2+bit/8] ^= 1 << (bit % 8)
	return b
}

func mustTell(t *testing.T, d *frame.Decoder, e api.Errno, want ...string) {
	t.Helper()
	if l, got := told(d); got != e || !slices.Equal(l, want) {
		t.Errorf("told %q, %v; want %q, %v", l, got, want, e)
	}
}

func mustTellNothing(t *testing.T, d *frame.Decoder, e api.Errno) {
	t.Helper()
	if b, ok, got := d.Next(); b != nil || ok || got != e {
		t.Errorf("told %q, %v, %v; want nothing and %v", b, ok, got, e)
	}
}

// P2.2

func TestANewOneTellsNothing(t *testing.T) {
	mustTellNothing(t, frame.New(), api.OK)
	mustTellNothing(t, &frame.Decoder{}, api.OK)
	mustTellNothing(t, pushed(nil, []byte{}), api.OK)
}

func TestPayloadsAreToldOnceInOrder(t *testing.T) {
	d := pushed(byWords([]byte("one")), byWords([]byte("two")))
	mustTell(t, d, api.OK, "one", "two")
	mustTellNothing(t, d, api.OK)
	d.Push(byWords([]byte("three")))
	mustTell(t, d, api.OK, "three")
	mustTellNothing(t, d, api.OK)
}

func TestPayloadsOfEdgeLengths(t *testing.T) {
	r := rand.New(rand.NewSource(2))
	for _, n := range []int{1, 2, 255, 256, api.MaxFrame - 1, api.MaxFrame} {
		payload := text(r, n)
		mustTell(t, pushed(byWords(payload), []byte{0}), api.OK, string(payload))
	}
}

func TestAPayloadIsToldWhenItIsWhole(t *testing.T) {
	b := byWords([]byte("whole"))
	d := frame.New()
	for i, x := range b {
		mustTellNothing(t, d, api.OK)
		if d.Rest() != i {
			t.Errorf("byte %d: rest %d", i, d.Rest())
		}
		d.Push([]byte{x})
	}
	mustTell(t, d, api.OK, "whole")
}

func TestAWrongLengthIsToldAtItsSecondByte(t *testing.T) {
	for _, n := range []uint16{0, api.MaxFrame + 1, 1 << 15, 1<<16 - 1} {
		b := binary.BigEndian.AppendUint16(nil, n)
		d := pushed(b[:1])
		mustTellNothing(t, d, api.OK)
		d.Push(b[1:])
		mustTellNothing(t, d, api.ErrLength)
		mustTellNothing(t, d, api.ErrLength)
	}
}

func TestAWrongSumIsToldAtItsLastByte(t *testing.T) {
	for bit := range 32 {
		b := wrongSum("payload", bit)
		d := pushed(b[:len(b)-1])
		mustTellNothing(t, d, api.OK)
		d.Push(b[len(b)-1:])
		mustTellNothing(t, d, api.ErrSum)
		mustTellNothing(t, d, api.ErrSum)
	}
}

func TestAWrongPayloadHasAWrongSum(t *testing.T) {
	b := byWords([]byte("payload"))
	for i := 6 * 8; i < len(b)*8; i++ {
		other := bytes.Clone(b)
		other[i/8] ^= 1 << (i % 8)
		mustTell(t, pushed(other), api.ErrSum)
	}
}

func TestBehindWhatIsWrongNothingIsTold(t *testing.T) {
	for e, wrong := range map[api.Errno][]byte{api.ErrLength: {0, 0}, api.ErrSum: wrongSum("b", 0)} {
		d := pushed(byWords([]byte("a")), wrong, byWords([]byte("c")))
		mustTell(t, d, e, "a")
		d.Push(byWords([]byte("d")))
		if d.Rest() != 0 {
			t.Errorf("%v: rest %d", e, d.Rest())
		}
		mustTellNothing(t, d, e)
	}
}

func TestOfANilDecoder(t *testing.T) {
	var d *frame.Decoder
	d.Push([]byte("abc"))
	mustTellNothing(t, d, api.ErrNil)
	if d.Wrong() != nil || d.Rest() != 0 || d.Copy() != nil {
		t.Error("a nil decoder tells something")
	}
}

func TestWhatIsToldIsTheCallersOwn(t *testing.T) {
	d := pushed(byWords([]byte("one")), byWords([]byte("two")))
	one, _, _ := d.Next()
	_ = append(one, "and bytes that would lie upon what is left"...)
	clear(one)
	c := d.Copy()
	two, _, _ := d.Next()
	clear(two)
	mustTell(t, c, api.OK, "two")
}

func TestChunksAreNotKept(t *testing.T) {
	b := append(make([]byte, 0, 64), byWords([]byte("one"))...)
	was := bytes.Clone(b)
	d := pushed(b[:4])
	d.Push(b[4:])
	if !bytes.Equal(b, was) {
		t.Error("a chunk was changed")
	}
	clear(b[:cap(b)])
	mustTell(t, d, api.OK, "one")
}

// P2.3

func TestWrongIsNilTillNextTellsAnError(t *testing.T) {
	d := frame.New()
	if d.Wrong() != nil {
		t.Errorf("new: %v", d.Wrong())
	}
	d.Push(byWords([]byte("a")))
	d.Push([]byte{0, 0})
	if d.Wrong() != nil {
		t.Errorf("ahead of Next: %v", d.Wrong())
	}
	d.Next()
	if d.Wrong() != nil {
		t.Errorf("behind a payload: %v", d.Wrong())
	}
	d.Next()
	if d.Wrong() == nil {
		t.Error("behind an error: nil")
	}
}

func TestWrongWrapsTheError(t *testing.T) {
	frames := append(byWords([]byte("abc")), byWords(make([]byte, 250))...)
	for _, ahead := range [][]byte{nil, byWords([]byte("a")), frames} {
		for e, wrong := range map[api.Errno][]byte{api.ErrLength: {0x10, 0x01}, api.ErrSum: wrongSum("b", 9)} {
			d := pushed(ahead, wrong, []byte("what is behind it"))
			told(d)
			err := d.Wrong()
			if !errors.Is(err, e) || errors.Is(err, api.ErrLength) == errors.Is(err, api.ErrSum) {
				t.Errorf("%v does not wrap %v alone", err, e)
			}
			var b *api.Broken
			if !errors.As(err, &b) || *b != (api.Broken{At: int64(len(ahead)), Err: e}) {
				t.Errorf("%v: %v, want %v at %d", e, b, e, len(ahead))
			}
			if want := e.Error() + " at " + strconv.Itoa(len(ahead)); err.Error() != want {
				t.Errorf("%q, want %q", err, want)
			}
		}
	}
}

func TestWrongIsTheCallersOwn(t *testing.T) {
	d := pushed([]byte{0, 0})
	d.Next()
	var b *api.Broken
	errors.As(d.Wrong(), &b)
	*b = api.Broken{}
	if err := d.Wrong(); err == nil || err.Error() != "length at 0" {
		t.Errorf("changed to %v", err)
	}
	mustTellNothing(t, d, api.ErrLength)
}

// P2.4

func TestRest(t *testing.T) {
	d := pushed(byWords([]byte("one")), byWords([]byte("two")), []byte{0, 9, 1})
	for _, want := range []int{21, 12, 3, 3} {
		if d.Rest() != want {
			t.Errorf("rest %d, want %d", d.Rest(), want)
		}
		d.Next()
	}
	if frame.New().Rest() != 0 {
		t.Error("a new one has a rest")
	}
}

func TestACopyGoesOnApart(t *testing.T) {
	b := byWords([]byte("payload"))
	d := pushed(b[:5])
	c := d.Copy()
	d.Push(b[5:])
	c.Push([]byte("something else than that"))
	mustTell(t, d, api.OK, "payload")
	mustTell(t, c, api.ErrSum)
	if d.Wrong() != nil {
		t.Errorf("broken by its copy: %v", d.Wrong())
	}
	again := c.Copy()
	if !again.Same(c) || again.Wrong() == nil || again.Wrong().Error() != "sum at 0" {
		t.Errorf("a broken one's copy: %v", again.Wrong())
	}
	mustTellNothing(t, again, api.ErrSum)
}

func TestACopySharesNoMemory(t *testing.T) {
	b := byWords(bytes.Repeat([]byte("payload"), 20))
	d := frame.New()
	for i, x := range b {
		c := d.Copy()
		d.Push([]byte{x})
		c.Push([]byte{^x, ^x, ^x})
		if want := pushed(b[:i+1]); !d.Same(want) {
			t.Fatalf("byte %d was changed through a copy", i)
		}
	}
}

func TestACopyStandsAtItsPlace(t *testing.T) {
	d := pushed(byWords([]byte("a")))
	d.Next()
	c := d.Copy()
	c.Push([]byte{0, 0})
	c.Next()
	if c.Wrong() == nil || c.Wrong().Error() != "length at 7" {
		t.Errorf("%v", c.Wrong())
	}
}

func done(chunks ...[]byte) *frame.Decoder {
	d := pushed(chunks...)
	told(d)
	return d
}

func TestSame(t *testing.T) {
	a, b := byWords([]byte("a")), byWords([]byte("b"))
	unlike := []*frame.Decoder{
		nil, frame.New(), pushed(a), pushed(b), pushed(a[:6]), pushed(a, a), done(a), done(a, a), done(a, b[:1]), done(a, a, b[:1]),
		pushed(b[:1]), pushed([]byte{1}), pushed([]byte{0, 0}), done([]byte{0, 0}), done(a, []byte{0, 0}), done(wrongSum("a", 0)), done(a, wrongSum("a", 0)),
	}
	for i, x := range unlike {
		for j, y := range unlike {
			if x.Same(y) != (i == j) {
				t.Errorf("%d and %d: %v", i, j, x.Same(y))
			}
		}
		if !x.Same(x.Copy()) || !x.Copy().Same(x) {
			t.Errorf("%d is not as its copy", i)
		}
	}
}

func TestSameWhateverCameAhead(t *testing.T) {
	a, b := byWords([]byte("a")), byWords([]byte("b"))
	alike := [][2]*frame.Decoder{
		{frame.New(), {}},
		{pushed(a), pushed(a[:3], a[3:])},
		{done(a), done(b)},
		{done(a, b[:2]), done(b[:1], b[1:], a[:2])},
		{done([]byte{0, 0}), done([]byte{0xFF, 0xFF}, a)},
		{done(a, wrongSum("xyz", 3)), done(b, wrongSum("x", 1), []byte("all else is let be"))},
		{pushed(nil, []byte{}), frame.New()},
	}
	for i, l := range alike {
		if !l[0].Same(l[1]) || !l[1].Same(l[0]) {
			t.Errorf("%d: not the same", i)
		}
	}
}

// P2.5

// stream is some frames, and the payloads; at its end may be something wrong, or a part of a frame.
func stream(r *rand.Rand) ([]byte, []string, api.Errno) {
	var b []byte
	var l []string
	for range r.Intn(5) {
		payload := text(r, 1+r.Intn(20))
		b, l = append(b, byWords(payload)...), append(l, string(payload))
	}
	switch r.Intn(4) {
	case 0:
		return append(append(b, 0, 0), text(r, r.Intn(20))...), l, api.ErrLength
	case 1:
		return append(append(b, 0x10+byte(r.Intn(0xF0)), 1), text(r, r.Intn(20))...), l, api.ErrLength
	case 2:
		return append(append(b, wrongSum("payload", r.Intn(32))...), text(r, r.Intn(20))...), l, api.ErrSum
	}
	return append(b, byWords([]byte("payload"))[:r.Intn(13)]...), l, api.OK
}

func TestHoweverAStreamIsCut(t *testing.T) {
	r := rand.New(rand.NewSource(3))
	for range 2000 {
		b, want, e := stream(r)
		whole := pushed(b)
		mustTell(t, whole, e, want...)
		var d frame.Decoder
		var got []string
		for left := b; len(left) > 0; {
			n := r.Intn(min(len(left), 9) + 1)
			d.Push(left[:n])
			left = left[n:]
			if r.Intn(2) == 0 {
				l, _ := told(&d)
				got = append(got, l...)
			}
		}
		l, last := told(&d)
		if got = append(got, l...); !slices.Equal(got, want) || last != e {
			t.Fatalf("%x, cut: %q, %v; want %q, %v", b, got, last, want, e)
		}
		if !d.Same(whole) {
			t.Fatalf("%x, cut: not the same as the whole", b)
		}
	}
}

func TestEachCutOfAStream(t *testing.T) {
	b := slices.Concat(byWords([]byte("one")), byWords([]byte("two")), []byte{0, 0}, byWords([]byte("three")))
	for i := range len(b) + 1 {
		for j := i; j <= len(b); j++ {
			d := pushed(b[:i])
			l, _ := told(d)
			d.Push(b[i:j])
			d.Push(b[j:])
			more, e := told(d)
			if l = append(l, more...); !slices.Equal(l, []string{"one", "two"}) || e != api.ErrLength {
				t.Fatalf("cut at %d and %d: %q, %v", i, j, l, e)
			}
		}
	}
}

func TestWhatIsToldEncodedIsWhatCame(t *testing.T) {
	r := rand.New(rand.NewSource(4))
	var came, again []byte
	for range 50 {
		b, e := frame.Encode(text(r, 1+r.Intn(api.MaxFrame)))
		if e != api.OK {
			t.Fatal(e)
		}
		came = append(came, b...)
	}
	d := pushed(came)
	for {
		payload, ok, e := d.Next()
		if e != api.OK {
			t.Fatal(e)
		}
		if !ok {
			break
		}
		b, _ := frame.Encode(payload)
		again = append(again, b...)
	}
	if !bytes.Equal(came, again) {
		t.Error("encoded again, it is not what came")
	}
}

func TestTheExample(t *testing.T) {
	mustTell(t, pushed([]byte{0, 1, 0xE8, 0xB7, 0xBE, 0x43, 'a'}, []byte{0, 0}), api.ErrLength, "a")
}

func TestALongStreamOfShortFrames(t *testing.T) {
	b := byWords([]byte("a"))
	d := pushed(bytes.Repeat(b, 100000))
	n := 0
	for {
		if _, ok, _ := d.Next(); !ok {
			break
		}
		n++
	}
	d.Push([]byte{0, 0})
	d.Next()
	if n != 100000 || d.Wrong() == nil || d.Wrong().Error() != "length at 700000" {
		t.Errorf("%d told, %v", n, d.Wrong())
	}
}

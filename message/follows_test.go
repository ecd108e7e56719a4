package message_test

import (
	"bytes"
	"math/rand"
	"slices"
	"testing"

	"riffle/api"
	"riffle/frame"
)

// P7.5

// byChance is a message of a kind with all that it names by chance, in its bounds.
func (s side[M]) byChance(r *rand.Rand, kind int) M {
	m := s.ofKind(kind)
	for _, p := range s.parts {
		if s.named(kind, p) {
			p.set(&m, p.chance(r))
		}
	}
	return m
}

// chance is a number in a part's bounds: of those that stand, or, if there is none beyond, any one.
func (p part[M]) chance(r *rand.Rand) int64 {
	if p.bad == nil && r.Intn(2) == 0 {
		return int64(r.Uint64() >> r.Intn(64))
	}
	return p.good[r.Intn(len(p.good))]
}

func testWhatMayBe[M any](t *testing.T, s side[M]) {
	r := rand.New(rand.NewSource(1))
	for range 3000 {
		for kind := range len(s.names) {
			m := s.byChance(r, kind+1)
			b, err := s.encode(m)
			if err != api.OK || !s.may(m) || len(b) > api.MaxFrame {
				t.Fatalf("%+v: %v, %d bytes", m, err, len(b))
			}
			if _, err := frame.Encode(b); err != api.OK {
				t.Fatalf("%+v fits no frame", m)
			}
			mustDecode(t, s, b, m)
		}
	}
}

func TestWhatMayBeComesBackAndFitsAFrame(t *testing.T) {
	both(t, testWhatMayBe, testWhatMayBe)
}

// mustBeItsBytes asks whether bytes are either refused, or just those of what comes.
func mustBeItsBytes[M any](t *testing.T, s side[M], b []byte) bool {
	t.Helper()
	was := bytes.Clone(b)
	m, err := s.decode(b)
	if !bytes.Equal(b, was) {
		t.Fatalf("%v were changed to %v", was, b)
	}
	if err != api.OK {
		if err != api.ErrTag && err != api.ErrField || !nothing(m) {
			t.Fatalf("%v: %+v, %v", b, m, err)
		}
		return false
	}
	if back, err := s.encode(m); err != api.OK || !bytes.Equal(back, b) || !s.may(m) || !bytes.Equal(s.byWords(m), b) {
		t.Fatalf("%v: %+v, whose bytes are %v, %v", b, m, back, err)
	}
	return true
}

// spoilt is bytes of which some are changed, cut off or added by chance.
func spoilt(r *rand.Rand, b []byte) []byte {
	for range 1 + r.Intn(3) {
		at := r.Intn(len(b))
		switch r.Intn(4) {
		case 0, 1:
			b[at] = byte(r.Intn(256))
		case 2:
			b = slices.Insert(b, at, byte(r.Intn(256)))
		case 3:
			b = b[:at+1]
		}
	}
	return b
}

func testAnyBytes[M any](t *testing.T, s side[M]) {
	r := rand.New(rand.NewSource(2))
	decoded := 0
	for range 3000 {
		for kind := range len(s.names) {
			b, _ := s.encode(s.byChance(r, kind+1))
			if mustBeItsBytes(t, s, spoilt(r, b)) {
				decoded++
			}
		}
	}
	for range 100000 {
		b := make([]byte, r.Intn(40))
		r.Read(b)
		if len(b) > 0 {
			b[0] %= 16
		}
		if mustBeItsBytes(t, s, b) {
			decoded++
		}
	}
	if decoded < 1000 {
		t.Errorf("only %d were decoded", decoded)
	}
}

func TestAnyBytesAreRefusedOrThoseOfAMessage(t *testing.T) {
	both(t, testAnyBytes, testAnyBytes)
}

func testShortBytes[M any](t *testing.T, s side[M]) {
	for first := range 256 {
		mustBeItsBytes(t, s, []byte{byte(first)})
		for second := range 256 {
			mustBeItsBytes(t, s, []byte{byte(first), byte(second)})
		}
	}
}

func TestAllShortBytes(t *testing.T) {
	both(t, testShortBytes, testShortBytes)
}

// testOthers asks whether unlike messages have unlike bytes.
func testOthers[M any](t *testing.T, s side[M]) {
	l := s.mayBe()
	for i, a := range l {
		for _, b := range l[:i] {
			first, _ := s.encode(a)
			second, _ := s.encode(b)
			if bytes.Equal(first, second) != s.same(a, b) {
				t.Fatalf("%+v and %+v: %v and %v", a, b, first, second)
			}
		}
	}
}

func TestBytesOfUnlikeMessages(t *testing.T) {
	both(t, testOthers, testOthers)
}

// testCut gets a stream in chunks by chance: it says the same messages.
func testCut[M any](t *testing.T, s side[M]) {
	r := rand.New(rand.NewSource(3))
	for range 300 {
		var l []M
		for range r.Intn(6) {
			l = append(l, s.byChance(r, 1+r.Intn(len(s.names))))
		}
		left, err := s.stream(l...)
		if err != api.OK {
			t.Fatal(err)
		}
		d := frame.New()
		said := 0
		for {
			payload, is, err := d.Next()
			if err != api.OK {
				t.Fatal(err)
			}
			if is {
				mustDecode(t, s, payload, l[said])
				said++
				continue
			}
			if len(left) == 0 {
				break
			}
			n := 1 + r.Intn(min(len(left), 50))
			d.Push(left[:n])
			left = left[n:]
		}
		if said != len(l) {
			t.Fatalf("%d of %d messages", said, len(l))
		}
	}
}

func TestHoweverAStreamIsCut(t *testing.T) {
	both(t, testCut, testCut)
}

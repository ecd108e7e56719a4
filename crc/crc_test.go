package crc_test

import (
	"bytes"
	"hash/crc32"
	"math"
	"math/bits"
	"math/rand"
	"testing"

	"riffle/crc"
)

// byWords is More, done bit by bit, as the document's words have it.
func byWords(c uint32, b []byte) uint32 {
	for _, x := range b {
		c = ^c
		c ^= uint32(x)
		for range 8 {
			out := c & 1
			c >>= 1
			if out == 1 {
				c ^= 0xEDB88320
			}
		}
		c = ^c
	}
	return c
}

// period: so many noughts lead each sum back to itself, since the polynomial is primitive.
const period = 1<<32 - 1

func sums() []uint32 {
	return []uint32{0, 1, 7, 0x80, 0x100, 0x7FFFFFFF, 0x80000000, 0xEDB88320, 0xCBF43926, 0xFFFFFFFE, 0xFFFFFFFF}
}

func text(r *rand.Rand, n int) []byte {
	b := make([]byte, n)
	r.Read(b)
	return b
}

// P1.1

func TestSumOfKnownTexts(t *testing.T) {
	for s, want := range map[string]uint32{
		"":                 0,
		"a":                0xE8B7BE43,
		"abc":              0x352441C2,
		"123456789":        0xCBF43926,
		"\x00":             0xD202EF8D,
		"\xFF":             0xFF000000,
		"\x00\x00\x00\x00": 0x2144DF1C,
		"\xFF\xFF\xFF\xFF": 0xFFFFFFFF,
		"The quick brown fox jumps over the lazy dog": 0x414FA339,
	} {
		if c := crc.Sum([]byte(s)); c != want {
			t.Errorf("%q: %08X, want %08X", s, c, want)
		}
	}
}

func TestSumOfNoBytes(t *testing.T) {
	if crc.Sum(nil) != 0 || crc.Sum([]byte{}) != 0 {
		t.Error("the sum of no bytes is not 0")
	}
}

func TestSumOfEachByte(t *testing.T) {
	for x := range 256 {
		b := []byte{byte(x)}
		if c, want := crc.Sum(b), byWords(0, b); c != want {
			t.Errorf("byte %d: %08X, want %08X", x, c, want)
		}
	}
}

func TestSumIsThatOfTheWords(t *testing.T) {
	r := rand.New(rand.NewSource(1))
	for n := range 600 {
		b := text(r, n)
		c := crc.Sum(b)
		if want := byWords(0, b); c != want {
			t.Fatalf("%d bytes: %08X, want %08X", n, c, want)
		}
		if want := crc32.ChecksumIEEE(b); c != want {
			t.Fatalf("%d bytes: %08X, Ethernet's is %08X", n, c, want)
		}
	}
}

func TestMoreOfEachSumAndByte(t *testing.T) {
	for _, c := range sums() {
		for x := range 256 {
			if s, want := crc.More(c, byte(x)), byWords(c, []byte{byte(x)}); s != want {
				t.Fatalf("%08X and byte %d: %08X, want %08X", c, x, s, want)
			}
		}
	}
}

func TestMoreOfSeveralBytes(t *testing.T) {
	if c := crc.More(0, '1', '2', '3', '4', '5', '6', '7', '8', '9'); c != 0xCBF43926 {
		t.Errorf("one by one: %08X", c)
	}
	r := rand.New(rand.NewSource(2))
	for range 300 {
		c, b := r.Uint32(), text(r, r.Intn(64))
		if s, want := crc.More(c, b...), byWords(c, b); s != want {
			t.Fatalf("%08X and %x: %08X, want %08X", c, b, s, want)
		}
	}
}

func TestMoreOfNoBytes(t *testing.T) {
	for _, c := range sums() {
		if crc.More(c) != c || crc.More(c, []byte{}...) != c {
			t.Errorf("%08X and no bytes: %08X", c, crc.More(c))
		}
	}
}

func TestTextsAreNotChanged(t *testing.T) {
	b := []byte("what is handed in is not changed")
	was := bytes.Clone(b)
	first := crc.Sum(b)
	crc.More(5, b...)
	if !bytes.Equal(b, was) {
		t.Errorf("changed to %q", b)
	}
	if crc.Sum(b) != first {
		t.Error("the same text has another sum at the second call")
	}
}

// P1.2

func TestNoughtsAreBytes(t *testing.T) {
	noughts := make([]byte, 1<<17)
	for _, c := range sums() {
		for n := range 520 {
			if s, want := crc.Noughts(c, int64(n)), byWords(c, noughts[:n]); s != want {
				t.Fatalf("%08X and %d noughts: %08X, want %08X", c, n, s, want)
			}
		}
		for _, n := range []int{4095, 4096, 4097, 65535, 65536, 1 << 17} {
			if s, want := crc.Noughts(c, int64(n)), crc.More(c, noughts[:n]...); s != want {
				t.Fatalf("%08X and %d noughts: %08X, want %08X", c, n, s, want)
			}
		}
	}
}

func TestNoNoughts(t *testing.T) {
	for _, c := range sums() {
		for _, n := range []int64{0, -1, -2, -3, -1 << 32, math.MinInt64 + 1, math.MinInt64} {
			if s := crc.Noughts(c, n); s != c {
				t.Errorf("%08X and %d noughts: %08X", c, n, s)
			}
		}
	}
}

func TestManyNoughtsInFewSteps(t *testing.T) {
	for _, c := range sums() {
		if s := crc.Noughts(c, period); s != c {
			t.Errorf("%08X, once around: %08X", c, s)
		}
		for _, n := range []int64{1 << 31, 1<<40 + 17, 1 << 62, math.MaxInt64 - 1, math.MaxInt64} {
			if s, want := crc.Noughts(c, n), crc.Noughts(c, n%period); s != want {
				t.Errorf("%08X and %d noughts: %08X, want %08X", c, n, s, want)
			}
			if s, want := crc.Noughts(c, n), crc.More(crc.Noughts(c, n-3), 0, 0, 0); s != want {
				t.Errorf("%08X and %d noughts: %08X, want %08X", c, n, s, want)
			}
		}
	}
}

func TestJoinOfEachCut(t *testing.T) {
	r := rand.New(rand.NewSource(3))
	for _, n := range []int{0, 1, 2, 9, 33, 300} {
		b := text(r, n)
		for cut := range n + 1 {
			head, tail := b[:cut], b[cut:]
			if c, want := crc.Join(crc.Sum(head), crc.Sum(tail), int64(len(tail))), byWords(0, b); c != want {
				t.Fatalf("%d bytes, cut at %d: %08X, want %08X", n, cut, c, want)
			}
		}
	}
}

func TestJoinOfTheExample(t *testing.T) {
	if c := crc.Join(crc.Sum([]byte("1234")), crc.Sum([]byte("56789")), 5); c != 0xCBF43926 {
		t.Errorf("%08X", c)
	}
}

func TestJoinWithNothing(t *testing.T) {
	for _, c := range sums() {
		if s := crc.Join(c, crc.Sum(nil), 0); s != c {
			t.Errorf("%08X, and nothing behind it: %08X", c, s)
		}
		if s := crc.Join(crc.Sum(nil), c, 4); s != c {
			t.Errorf("nothing, and %08X behind it: %08X", c, s)
		}
		if s := crc.Join(c, 0, math.MinInt64); s != c {
			t.Errorf("%08X, and less than nothing behind it: %08X", c, s)
		}
	}
}

func TestJoinOfGreatTexts(t *testing.T) {
	end := []byte("123456789")
	for _, a := range sums() {
		for _, n := range []int64{9, 1 << 20, period, 1 << 40, math.MaxInt64} {
			b := crc.More(crc.Noughts(0, n-9), end...)
			want := crc.More(crc.Noughts(a, n-9), end...)
			if c := crc.Join(a, b, n); c != want {
				t.Errorf("%08X, and %d bytes behind it: %08X, want %08X", a, n, c, want)
			}
		}
	}
}

// P1.3

func TestMoreOfParts(t *testing.T) {
	r := rand.New(rand.NewSource(4))
	for range 200 {
		b := text(r, r.Intn(400))
		c := uint32(0)
		for left := b; len(left) > 0; {
			n := r.Intn(len(left) + 1)
			c = crc.More(c, left[:n]...)
			left = left[n:]
		}
		if want := crc.Sum(b); c != want {
			t.Fatalf("%x: %08X in parts, %08X as a whole", b, c, want)
		}
	}
}

// flip turns over bits of a text, from a place on: the lowest bit of a byte comes first, as it falls out first.
func flip(b []byte, place int, pattern uint32) []byte {
	out := bytes.Clone(b)
	for ; pattern != 0; pattern >>= 1 {
		if pattern&1 == 1 {
			out[place/8] ^= 1 << (place % 8)
		}
		place++
	}
	return out
}

func patterns(r *rand.Rand) []uint32 {
	l := []uint32{1, 3, 5, 0x80000001, 0xFFFFFFFF, 0xEDB88320, 0xEDB88321, 0x04C11DB7, 0xDB710641}
	for i := 1; i < 32; i++ {
		l = append(l, 1|1<<i, 1<<i-1)
	}
	for range 60 {
		l = append(l, r.Uint32()|1)
	}
	return l
}

func TestUnlikeSums(t *testing.T) {
	r := rand.New(rand.NewSource(5))
	for _, n := range []int{1, 3, 4, 5, 16, 40} {
		b := text(r, n)
		c := crc.Sum(b)
		for _, pattern := range patterns(r) {
			for place := 0; place+bits.Len32(pattern) <= 8*n; place++ {
				if other := flip(b, place, pattern); crc.Sum(other) == c {
					t.Fatalf("%x and %x have one sum", b, other)
				}
			}
		}
	}
}

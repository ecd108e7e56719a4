package outbox_test

import (
	"math/rand"
	"testing"

	"riffle/api"
	"riffle/outbox"
)

// stream is an outbox as its words tell it: all that was put, together, where each text of it ends, and how much of it was taken.
type stream struct {
	most  int
	all   []byte
	ends  []int
	taken int
}

func (s *stream) put(b []byte) api.Errno {
	switch {
	case len(b) == 0:
		return api.ErrArg
	case len(s.waits()) == s.most:
		return api.ErrFull
	}
	s.all = append(s.all, b...)
	s.ends = append(s.ends, len(s.all))
	return api.OK
}

func (s *stream) take(n int) string {
	from := s.taken
	s.taken = min(from+max(n, 0), len(s.all))
	return string(s.all[from:s.taken])
}

// waits is what is left of the texts whose last byte was not taken.
func (s *stream) waits() []string {
	var l []string
	from := s.taken
	for _, end := range s.ends {
		if end > s.taken {
			l = append(l, string(s.all[from:end]))
			from = end
		}
	}
	return l
}

func drawnText(r *rand.Rand) []byte {
	b := make([]byte, r.Intn(1+r.Intn(12)))
	r.Read(b)
	return b
}

// P12.1 to P12.4, of any steps: what comes is as the words tell it, and what is taken is a beginning of what was put.

func TestAnySteps(t *testing.T) {
	full := 0
	for seed := range int64(80) {
		r := rand.New(rand.NewSource(seed))
		want := stream{most: r.Intn(9)}
		o := outbox.New(want.most)
		var kept [][]byte
		for range 200 {
			if r.Intn(2) == 0 {
				b := drawnText(r)
				got, err := o.Put(b), want.put(b)
				if got != err {
					t.Fatalf("Put(%q): %v, want %v", b, got, err)
				}
				if err == api.ErrFull {
					full++
				}
				r.Read(b)
			} else {
				n := r.Intn(1+r.Intn(20)) - 1
				b := o.Take(n)
				if text := want.take(n); string(b) != text {
					t.Fatalf("Take(%d): %q, want %q", n, b, text)
				}
				kept = append(kept, b)
			}
			l := want.waits()
			mustHave(t, o, want.most-len(l), int64(want.taken), l...)
			if r.Intn(10) == 0 {
				o = o.Copy()
			}
		}
		mustHaveTaken(t, kept, want)
	}
	if full == 0 {
		t.Error("no outbox was full")
	}
}

// mustHaveTaken asks whether what was taken, all together, as it is now, is a beginning of all that was put.
func mustHaveTaken(t *testing.T, kept [][]byte, want stream) {
	t.Helper()
	at := 0
	for _, b := range kept {
		if at+len(b) > len(want.all) || string(b) != string(want.all[at:at+len(b)]) {
			t.Fatalf("at %d of the stream %q was taken", at, b)
		}
		at += len(b)
	}
	if at != want.taken {
		t.Errorf("%d bytes were taken, want %d", at, want.taken)
	}
}

// Of one stream, however it is taken, the same comes; texts come as there is room.
func TestHoweverItIsTakenTheSameComes(t *testing.T) {
	r := rand.New(rand.NewSource(7))
	var l [][]byte
	var all []byte
	for range 400 {
		b := append(drawnText(r), 'x')
		l, all = append(l, b), append(all, b...)
	}
	for _, most := range []int{1, 2, 3, 50, api.MaxOut, len(l)} {
		for _, n := range []int{1, 2, 3, 10, 100, len(all), len(all) + 1} {
			o := outbox.New(most)
			var got []byte
			for next := 0; len(got) < len(all); {
				for next < len(l) && o.Put(l[next]) == api.OK {
					next++
				}
				b := o.Take(n)
				if len(b) == 0 {
					t.Fatalf("room for %d, by %d: nothing comes behind %d of %d bytes", most, n, len(got), len(all))
				}
				got = append(got, b...)
			}
			if string(got) != string(all) {
				t.Errorf("room for %d, by %d: what was taken is not what was put", most, n)
			}
			mustHave(t, o, most, int64(len(all)))
		}
	}
}

package pool

import (
	"math/rand"
	"testing"

	"riffle/api"
)

// mustStandClose asks for what keeps a Take from any place short, and blocks few.
func mustStandClose(t *testing.T, p *Pool) {
	t.Helper()
	n := 0
	for i, block := range p.blocks {
		n += len(block)
		if len(block) > blockSize {
			t.Fatalf("block %d has %d messages", i, len(block))
		}
		if i > 0 && len(p.blocks[i-1])+len(block) <= blockSize {
			t.Fatalf("blocks %d and %d, of %d and %d messages, would fit one", i-1, i, len(p.blocks[i-1]), len(block))
		}
	}
	if n != p.length {
		t.Fatalf("blocks have %d messages, want %d", n, p.length)
	}
}

func TestBlocksStandClose(t *testing.T) {
	for _, pick := range []func(r *rand.Rand, n int) int{
		func(*rand.Rand, int) int { return 0 },
		func(_ *rand.Rand, n int) int { return n - 1 },
		func(_ *rand.Rand, n int) int { return n / 2 },
		(*rand.Rand).Intn,
	} {
		r := rand.New(rand.NewSource(1))
		p := New()
		for _, puts := range []int{90, 30, 60, 20, 50} {
			for range 2000 {
				if p.length == 0 || r.Intn(100) < puts {
					p.Put(api.Message{})
				} else {
					p.Take(pick(r, p.length))
				}
				mustStandClose(t, p)
				if r.Intn(50) == 0 {
					p = p.Copy()
				}
			}
		}
	}
}

func TestEachIsLeftEarly(t *testing.T) {
	p := New()
	for range 3 * blockSize {
		p.Put(api.Message{})
	}
	for _, n := range []int{1, blockSize, blockSize + 1, 3 * blockSize} {
		asked := 0
		p.each()(func(api.Message) bool {
			asked++
			return asked < n
		})
		if asked != n {
			t.Errorf("asked %d times, want %d", asked, n)
		}
	}
}

package vm_test

import (
	"math/big"
	"math/rand"
	"testing"

	"riffle/api"
	"riffle/vm"
)

// power is 2^n.
func power(n uint) *big.Int {
	return new(big.Int).Lsh(big.NewInt(1), n)
}

// chanceByWords is a number by chance, as the document's words have it, in numbers without bounds.
func chanceByWords(seed, drawn int64) int64 {
	modulo := func(x *big.Int) *big.Int { return x.Mod(x, power(64)) }
	number := func(s string) *big.Int {
		n, _ := new(big.Int).SetString(s, 16)
		return n
	}
	x := new(big.Int).Add(big.NewInt(drawn), big.NewInt(1))
	x = modulo(x.Add(x.Mul(x, number("9E3779B97F4A7C15")), big.NewInt(seed)))
	shifted := func(n uint) { x.Xor(x, new(big.Int).Rsh(x, n)) }
	shifted(30)
	modulo(x.Mul(x, number("BF58476D1CE4E5B9")))
	shifted(27)
	modulo(x.Mul(x, number("94D049BB133111EB")))
	shifted(31)
	return x.Rsh(x, 1).Int64()
}

// P8.2

func TestChanceOfKnownNumbers(t *testing.T) {
	for _, c := range []struct {
		seed, drawn int64
		mixed       uint64
	}{
		{0, 0, 0xE220A8397B1DCDAF}, {0, 1, 0x6E789E6AA1B965F4}, {0, 2, 0x06C45D188009454F},
		{1234567, 0, 6457827717110365317}, {1234567, 1, 3203168211198807973}, {1234567, 2, 9817491932198370423},
		{1234567, 3, 4593380528125082431}, {1234567, 4, 16408922859458223821},
		{0, -1, 0},
	} {
		if n := vm.Chance(c.seed, c.drawn); n != int64(c.mixed>>1) {
			t.Errorf("seed %d, drawn %d: %d, want %d", c.seed, c.drawn, n, c.mixed>>1)
		}
	}
}

func mustChance(t *testing.T, seed, drawn int64) {
	t.Helper()
	n := vm.Chance(seed, drawn)
	if want := chanceByWords(seed, drawn); n != want || n < 0 {
		t.Errorf("seed %d, drawn %d: %d, want %d", seed, drawn, n, want)
	}
	if again := vm.Chance(seed, drawn); again != n {
		t.Errorf("seed %d, drawn %d: %d, then %d", seed, drawn, n, again)
	}
}

func TestChanceByItsFormula(t *testing.T) {
	edges := []int64{least, least + 1, -1 << 32, -2, -1, 0, 1, 2, 1 << 31, 1 << 32, 1 << 62, greatest - 1, greatest}
	for _, seed := range edges {
		for _, drawn := range edges {
			mustChance(t, seed, drawn)
		}
	}
	r := rand.New(rand.NewSource(1))
	for range 2000 {
		mustChance(t, int64(r.Uint64()), int64(r.Uint64()))
		mustChance(t, int64(r.Uint64()), r.Int63n(1000))
	}
}

func TestRandOfSeedsAndCounts(t *testing.T) {
	for _, seed := range []int64{least, -1, 0, 1, greatest} {
		for self := 1; self <= 2; self++ {
			m := mustMake(t, program(1, []api.Instr{op(api.OpRand), op(api.OpStore, 0)}), self, 2, seed)
			for _, drawn := range []int64{0, 1, 1 << 40, greatest - 1, greatest} {
				// behind the greatest count comes the least number: they go on modulo 2^64
				want := api.Step{State: state(3, drawn+1, chanceByWords(seed, drawn))}
				mustComeTo(t, m, state(3, drawn, 0), event(5, self, 0, 0), want)
			}
		}
	}
}

func TestRandDrawsOneAfterAnother(t *testing.T) {
	m := mustMake(t, program(1, []api.Instr{op(api.OpRand), op(api.OpStore, 0)}), 1, 1, 42)
	s := state(0, 0, 0)
	for drawn := range int64(50) {
		s = mustRun(t, m, s, event(5, 1, 0, 0)).State
		if s.Drawn != drawn+1 || s.Vars[0] != chanceByWords(42, drawn) {
			t.Errorf("the number %d: %+v", drawn, s)
		}
	}
}

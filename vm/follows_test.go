package vm_test

import (
	"math/big"
	"math/rand"
	"slices"
	"testing"

	"riffle/api"
	"riffle/order"
)

// slow is a run as its words tell it: numbers know no bounds, and are taken modulo 2^64 where they are put down.
type slow struct {
	self, procs int
	seed        int64
	event       api.Event
	step        api.Step
	stack       []*big.Int
}

// wrapped is what a number is in 64 bits.
func wrapped(n *big.Int) *big.Int {
	n = new(big.Int).Mod(n, power(64))
	if n.Cmp(power(63)) >= 0 {
		n.Sub(n, power(64))
	}
	return n
}

func (s *slow) push(n *big.Int) {
	s.stack = append(s.stack, wrapped(n))[:min(len(s.stack)+1, api.MaxStack)]
}

func (s *slow) pushIf(is bool) {
	if is {
		s.push(big.NewInt(1))
	} else {
		s.push(new(big.Int))
	}
}

func (s *slow) take() *big.Int {
	if len(s.stack) == 0 {
		return new(big.Int)
	}
	n := s.stack[len(s.stack)-1]
	s.stack = s.stack[:len(s.stack)-1]
	return n
}

func (s *slow) send(kind int) {
	to, delay, data := s.take(), s.take(), s.take()
	to = new(big.Int).Sub(to, big.NewInt(1))
	to.Mod(to, big.NewInt(int64(s.procs)))
	if delay.Cmp(big.NewInt(1)) < 0 {
		delay = big.NewInt(1)
	}
	if delay.Cmp(big.NewInt(api.MaxDelay)) > 0 {
		delay = big.NewInt(api.MaxDelay)
	}
	time, seq := s.event.Time+delay.Int64(), s.step.State.Sent
	if time > api.MaxTime || seq > api.MaxSeq || len(s.step.Sends) == api.MaxSends {
		return
	}
	s.step.Sends = append(s.step.Sends, sent(time, s.self, seq, 1+int(to.Int64()), kind, data.Int64()))
	s.step.State.Sent++
}

func (s *slow) tell() {
	n := s.take().Int64()
	if len(s.step.Tells) < api.MaxTells {
		s.step.Tells = append(s.step.Tells, api.Record{Key: s.event.Key, Proc: s.self, Nth: len(s.step.Tells), Value: n})
	}
}

// do does what is not a jump.
func (s *slow) do(i api.Instr) {
	vars := s.step.State.Vars
	switch i.Op {
	case api.OpPush:
		s.push(big.NewInt(i.N))
	case api.OpLoad:
		s.push(big.NewInt(vars[i.N]))
	case api.OpStore:
		vars[i.N] = s.take().Int64()
	case api.OpTime:
		s.push(big.NewInt(s.event.Time))
	case api.OpData:
		s.push(big.NewInt(s.event.Data))
	case api.OpSelf:
		s.push(big.NewInt(int64(s.self)))
	case api.OpRand:
		s.push(big.NewInt(chanceByWords(s.seed, s.step.State.Drawn)))
		s.step.State.Drawn++
	case api.OpAdd, api.OpSub, api.OpMul, api.OpLess, api.OpSame:
		b, a := s.take(), s.take()
		s.two(i.Op, a, b)
	case api.OpSend:
		s.send(int(i.N))
	case api.OpTell:
		s.tell()
	}
}

func (s *slow) two(o api.Op, a, b *big.Int) {
	switch o {
	case api.OpAdd:
		s.push(new(big.Int).Add(a, b))
	case api.OpSub:
		s.push(new(big.Int).Sub(a, b))
	case api.OpMul:
		s.push(new(big.Int).Mul(a, b))
	case api.OpLess:
		s.pushIf(a.Cmp(b) < 0)
	case api.OpSame:
		s.pushIf(a.Cmp(b) == 0)
	}
}

// whole does what stands at a place, and goes on from there, till it ends.
func (s *slow) whole(code []api.Instr) {
	at := 0
	for done := 0; done < api.MaxFuel && at < len(code); done++ {
		i := code[at]
		at++
		switch {
		case i.Op == api.OpEnd:
			return
		case i.Op == api.OpJump, i.Op == api.OpZero && s.take().Sign() == 0:
			at = int(i.N)
		default:
			s.do(i)
		}
	}
}

func runByWords(p api.Program, self, procs int, seed int64, from api.State, e api.Event) api.Step {
	s := slow{self: self, procs: procs, seed: seed, event: e, step: api.Step{State: from}}
	s.step.State.Vars = slices.Clone(from.Vars)
	if e.Kind < len(p.Kinds) {
		s.whole(p.Kinds[e.Kind])
	}
	return s.step
}

// pick is one of these, or any number by chance.
func pick(r *rand.Rand, l ...int64) int64 {
	if i := r.Intn(len(l) + 1); i < len(l) {
		return l[i]
	}
	return int64(r.Uint64())
}

func number(r *rand.Rand) int64 {
	return pick(r, least, least+1, -1, 0, 0, 1, 2, 3, 17, api.MaxDelay, api.MaxDelay+1, api.MaxTime, 1<<32, greatest)
}

// instruction is one by chance, that may be at a kind of so many; pushes are more often than others, lest the stack be empty all the time.
func instruction(r *rand.Rand, vars, kinds, length int) api.Instr {
	o := api.Op(1 + r.Intn(int(api.OpEnd)+6))
	switch o {
	case api.OpLoad, api.OpStore:
		if vars > 0 {
			return op(o, int64(r.Intn(vars)))
		}
	case api.OpJump, api.OpZero:
		return op(o, int64(r.Intn(length+1)))
	case api.OpSend:
		return op(o, int64(r.Intn(kinds)))
	case api.OpEnd:
		if r.Intn(4) == 0 {
			return op(o)
		}
	default:
		if o > api.OpPush && o < api.OpEnd {
			return op(o)
		}
	}
	return op(api.OpPush, number(r))
}

func programByChance(r *rand.Rand) api.Program {
	p := program(r.Intn(api.MaxVars + 1))
	kinds := 1 + r.Intn(api.MaxKinds)
	for range kinds {
		kind := make([]api.Instr, r.Intn(api.MaxCode+1)>>r.Intn(5))
		for i := range kind {
			kind[i] = instruction(r, p.Vars, kinds, len(kind))
		}
		p.Kinds = append(p.Kinds, kind)
	}
	return p
}

func stateByChance(r *rand.Rand, vars int) api.State {
	count := func() int64 {
		return []int64{0, 0, 1, r.Int63n(1000), api.MaxSeq - 2, api.MaxSeq, api.MaxSeq + 1, greatest - 1, greatest}[r.Intn(9)]
	}
	s := state(count(), count())
	for range vars {
		s.Vars = append(s.Vars, number(r))
	}
	return s
}

func eventByChance(r *rand.Rand, self int) api.Event {
	times := []int64{0, 1, r.Int63n(1000), api.MaxTime - api.MaxDelay - 1, api.MaxTime - api.MaxDelay, api.MaxTime - 17, api.MaxTime - 2, api.MaxTime}
	return sent(times[r.Intn(len(times))], r.Intn(api.Outside+1), r.Int63n(api.MaxSeq+1), self, r.Intn(api.MaxKinds), number(r))
}

// mustFollow asks for what P8.3 says of each step.
func mustFollow(t *testing.T, self, procs int, from api.State, e api.Event, step api.Step) {
	t.Helper()
	for i, x := range step.Sends {
		if x.Time <= e.Time || !order.May(x, procs) || x.Origin != self || x.Seq != from.Sent+int64(i) {
			t.Errorf("at %+v, %d of %d, from %+v: the event %d is %+v", e, self, procs, from, i, x)
		}
	}
	for i, x := range step.Tells {
		if x.Key != e.Key || x.Proc != self || x.Nth != i {
			t.Errorf("at %+v, %d of %d: the record %d is %+v", e, self, procs, i, x)
		}
	}
	if len(step.Sends) > api.MaxSends || len(step.Tells) > api.MaxTells || step.State.Sent != from.Sent+int64(len(step.Sends)) {
		t.Errorf("at %+v, from %+v: %+v", e, from, step)
	}
}

// P8.3

func TestRunsByChance(t *testing.T) {
	r := rand.New(rand.NewSource(1))
	sends, tells := 0, 0
	for range 20000 {
		p, procs, seed := programByChance(r), 1+r.Intn(api.MaxProcs), number(r)
		self := 1 + r.Intn(procs)
		m := mustMake(t, p, self, procs, seed)
		for range 3 {
			s, e := stateByChance(r, p.Vars), eventByChance(r, self)
			step := mustRun(t, m, s, e)
			if want := runByWords(p, self, procs, seed, s, e); !sameStep(step, want) {
				t.Fatalf("%v, %d of %d, seed %d, at %+v in %+v: %+v, want %+v", p, self, procs, seed, e, s, step, want)
			}
			mustFollow(t, self, procs, s, e, step)
			sends += len(step.Sends)
			tells += len(step.Tells)
		}
	}
	if sends < 5000 || tells < 5000 {
		t.Errorf("%d events sent and %d records told are too few to tell", sends, tells)
	}
}

func TestStatesGoOnFromRunToRun(t *testing.T) {
	r := rand.New(rand.NewSource(2))
	for range 300 {
		p, procs, seed := programByChance(r), 1+r.Intn(api.MaxProcs), number(r)
		self := 1 + r.Intn(procs)
		m := mustMake(t, p, self, procs, seed)
		s := state(0, 0, slices.Repeat([]int64{5}, p.Vars)...)
		for range 20 {
			if !m.May(s) {
				t.Fatalf("%v comes to %+v, which is none of it", p, s)
			}
			e := eventByChance(r, self)
			want := runByWords(p, self, procs, seed, s, e)
			mustComeTo(t, m, s, e, want)
			s = want.State
		}
	}
}

func TestAllCodeOfTwoInstructionsEnds(t *testing.T) {
	var all []api.Instr
	for o := api.OpPush; o <= api.OpEnd; o++ {
		all = append(all, op(o))
		if o == api.OpJump || o == api.OpZero || o == api.OpPush {
			all = append(all, op(o, 1), op(o, 2))
		}
	}
	for _, a := range all {
		for _, b := range all {
			p, e, s := program(1, []api.Instr{a, b}), event(10, 1, 0, 6), state(0, 0, 3)
			mustComeTo(t, mustMake(t, p, 1, 2, seed), s, e, runByWords(p, 1, 2, seed, s, e))
		}
	}
}

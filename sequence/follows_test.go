package sequence_test

import (
	"math/rand"
	"slices"
	"testing"

	"riffle/api"
	"riffle/model"
	"riffle/sequence"
	"riffle/vm"
)

// slow is a sequence as its words tell it: events wait in a list in no order, which is looked through from its beginning.
type slow struct {
	model  api.Model
	states []api.State
	waits  []api.Event
	puts   []int64
	floor  int64
	done   int
}

func newSlow(m api.Model) *slow {
	s := &slow{model: m, waits: slices.Clone(m.First), floor: -1}
	for _, p := range m.Procs {
		s.states = append(s.states, api.State{Vars: slices.Clone(p.Vars)})
	}
	return s
}

func ahead(a, b api.Event) bool {
	if a.Time != b.Time {
		return a.Time < b.Time
	}
	if a.Origin != b.Origin {
		return a.Origin < b.Origin
	}
	return a.Seq < b.Seq
}

func (s *slow) put(e api.Event) api.Errno {
	switch {
	case e.Time < 0 || e.Time > api.MaxTime || e.Origin != api.Outside || e.Seq < 0 || e.Seq > api.MaxSeq:
		return api.ErrArg
	case e.To < 1 || e.To > len(s.model.Procs) || e.Kind < 0 || e.Kind >= api.MaxKinds:
		return api.ErrArg
	case slices.Contains(s.puts, e.Seq):
		return api.ErrTwice
	case e.Time <= s.floor:
		return api.ErrTime
	}
	s.puts = append(s.puts, e.Seq)
	s.waits = append(s.waits, e)
	return api.OK
}

// least is where the event with the least key stands.
func (s *slow) least() int {
	least := 0
	for i, e := range s.waits {
		if ahead(e, s.waits[least]) {
			least = i
		}
	}
	return least
}

func (s *slow) step() (api.Event, []api.Record, api.Errno) {
	if len(s.waits) == 0 {
		return api.Event{}, nil, api.ErrNone
	}
	i := s.least()
	e := s.waits[i]
	s.waits = slices.Delete(s.waits, i, i+1)
	p := s.model.Procs[e.To-1]
	machine, _ := vm.New(p.Program, e.To, len(s.model.Procs), p.Seed)
	step, err := machine.Run(s.states[e.To-1], e)
	if err != api.OK {
		panic(err)
	}
	s.states[e.To-1] = step.State
	s.waits = append(s.waits, step.Sends...)
	s.floor = e.Time
	s.done++
	return e, step.Tells, api.OK
}

func mustBeAs(t *testing.T, s *sequence.Sequence, want *slow) {
	t.Helper()
	mustStand(t, s, want.floor, want.done, len(want.waits))
	for i, state := range want.states {
		mustHaveState(t, s, i+1, state.Sent, state.Drawn, state.Vars...)
	}
	if len(want.waits) == 0 {
		mustHaveNext(t, s)
	} else {
		mustHaveNext(t, s, want.waits[want.least()])
	}
}

// drawnCode is any code that may be, of a program of so many variables and kinds.
func drawnCode(r *rand.Rand, vars, kinds int) []api.Instr {
	l := make([]api.Instr, r.Intn(30))
	for i := range l {
		o := api.Op(1 + r.Intn(int(api.OpEnd)))
		if r.Intn(3) == 0 {
			o = api.OpPush
		}
		switch o {
		case api.OpPush:
			l[i] = op(o, r.Int63n(40)-3)
		case api.OpLoad, api.OpStore:
			l[i] = op(o, r.Int63n(int64(vars)))
		case api.OpJump, api.OpZero:
			l[i] = op(o, r.Int63n(int64(len(l)+1)))
		case api.OpSend:
			l[i] = op(o, r.Int63n(int64(kinds)))
		default:
			l[i] = op(o)
		}
	}
	return l
}

func drawnModel(r *rand.Rand) api.Model {
	var m api.Model
	for range 1 + r.Intn(5) {
		vars, kinds := 1+r.Intn(3), 1+r.Intn(4)
		p := proc(make([]int64, vars))
		for range kinds {
			p.Program.Kinds = append(p.Program.Kinds, drawnCode(r, vars, kinds))
		}
		p.Seed = r.Int63()
		m.Procs = append(m.Procs, p)
	}
	for place := range r.Intn(8) {
		m.First = append(m.First, first(place, r.Int63n(30), 1+r.Intn(len(m.Procs)), r.Intn(5), r.Int63n(9)))
	}
	return m
}

// P13.1 to P13.3, of any models and any steps: what comes is as the words tell it.

func TestAnySteps(t *testing.T) {
	count := map[api.Errno]int{}
	for seed := range int64(120) {
		r := rand.New(rand.NewSource(seed))
		m := drawnModel(r)
		s, want := mustMake(t, m), newSlow(model.Copy(m))
		for range 120 {
			if r.Intn(3) == 0 {
				e := outside(max(want.floor, 0)+r.Int63n(20)-2, r.Int63n(60)-1, r.Intn(7), r.Intn(5), r.Int63n(9))
				got, err := s.Put(e), want.put(e)
				if got != err {
					t.Fatalf("seed %d: Put(%+v): %v, want %v", seed, e, got, err)
				}
				count[err]++
			} else {
				e, l, err := want.step()
				if got, tells, errno := s.Step(); got != e || !slices.Equal(tells, l) || errno != err {
					t.Fatalf("seed %d: Step: %+v, %+v, %v, want %+v, %+v, %v", seed, got, tells, errno, e, l, err)
				}
				count[err]++
			}
			mustBeAs(t, s, want)
			if r.Intn(10) == 0 {
				c := s.Copy()
				mustBeSame(t, s, c, true)
				s = c
			}
		}
	}
	for _, err := range []api.Errno{api.OK, api.ErrArg, api.ErrTwice, api.ErrTime, api.ErrNone} {
		if count[err] < 20 {
			t.Errorf("%v came %d times", err, count[err])
		}
	}
}

// P13.4

func TestKeysRise(t *testing.T) {
	steps := 0
	for seed := range int64(200) {
		r := rand.New(rand.NewSource(seed))
		s := mustMake(t, drawnModel(r))
		last := api.Event{Key: api.Key{Time: -1}}
		for i := range int64(100) {
			if r.Intn(3) == 0 { // some are refused
				s.Put(outside(s.Floor()+r.Int63n(9), i, 1, r.Intn(5), 0))
			}
			e, l, err := s.Step()
			if err != api.OK {
				continue
			}
			if !ahead(last, e) {
				t.Fatalf("seed %d: %+v is done behind %+v", seed, e, last)
			}
			for nth, x := range l {
				if x.Key != e.Key || x.Proc != e.To || x.Nth != nth {
					t.Fatalf("seed %d: at %+v is told %+v", seed, e, x)
				}
			}
			last = e
			steps++
		}
	}
	if steps < 5000 {
		t.Errorf("%d steps alone", steps)
	}
}

// What there is was a first event, or put in, or sent: each of it is done, or waits.
func TestNothingIsLost(t *testing.T) {
	for seed := range int64(100) {
		r := rand.New(rand.NewSource(seed))
		m := drawnModel(r)
		s := mustMake(t, m)
		there := int64(len(m.First))
		for i := range int64(100) {
			if s.Put(outside(r.Int63n(200), i, 1, r.Intn(5), 0)) == api.OK {
				there++
			}
			s.Step()
			all := there
			for p := range m.Procs {
				state, _ := s.State(p + 1)
				all += state.Sent
			}
			if int64(s.Done()+s.Waits()) != all {
				t.Fatalf("seed %d: %d are done and %d wait of %d", seed, s.Done(), s.Waits(), all)
			}
		}
	}
}

// drawnPuts are so many events from outside, no two of one Seq.
func drawnPuts(r *rand.Rand, n, procs int) []api.Event {
	var l []api.Event
	for _, seq := range r.Perm(n) {
		l = append(l, outside(r.Int63n(60), int64(seq), 1+r.Intn(procs), r.Intn(5), r.Int63n(9)))
	}
	return l
}

// late puts events in between steps, in any order, but none when it would be too late, and tells what is done by so many steps.
func late(t *testing.T, r *rand.Rand, s *sequence.Sequence, puts []api.Event, steps int) []done {
	t.Helper()
	puts = slices.Clone(puts)
	var l []done
	for len(l) < steps {
		r.Shuffle(len(puts), func(i, j int) { puts[i], puts[j] = puts[j], puts[i] })
		puts = slices.DeleteFunc(puts, func(e api.Event) bool {
			next, ok := s.Next()
			if ok && ahead(next, e) && r.Intn(4) > 0 {
				return false
			}
			mustPut(t, s, e)
			return true
		})
		if next, ok := s.Next(); slices.ContainsFunc(puts, func(e api.Event) bool { return !ok || e.Time <= next.Time }) {
			continue // it might be too late behind the step
		}
		e, tells, err := s.Step()
		if err != api.OK {
			break
		}
		l = append(l, done{e, tells})
	}
	mustPut(t, s, puts...)
	return l
}

func TestInWhicheverOrderEventsArePutInTheSameIsDone(t *testing.T) {
	for seed := range int64(60) {
		r := rand.New(rand.NewSource(seed))
		m := drawnModel(r)
		puts := drawnPuts(r, 1+r.Intn(20), len(m.Procs))
		want := of(t, m, puts...)
		whole := begins(want.All(), 80)
		goOn(t, want, len(whole))
		for range 6 {
			r.Shuffle(len(puts), func(i, j int) { puts[i], puts[j] = puts[j], puts[i] })
			s := of(t, m, puts...)
			mustBegin(t, s.All(), len(whole) < 80, whole...)
			goOn(t, s, len(whole))
			mustBeSame(t, s, want, true)

			s = mustMake(t, m)
			if got := late(t, r, s, puts, len(whole)); !slices.EqualFunc(got, whole, sameDone) {
				t.Fatalf("seed %d: %+v is done, want %+v", seed, got, whole)
			}
			mustBeSame(t, s, want, true)
		}
	}
}

func TestEachOrderOfFour(t *testing.T) {
	l := []api.Event{outside(24, 0, 2, 1, -2), outside(24, 1, 2, 0, 6), outside(3, 2, 3, 0, 0), outside(40, 3, 1, 0, 0)}
	want := of(t, relay(), l...)
	whole := rest(t, want)
	for i := range 4 * 4 * 4 * 4 {
		order := []int{i % 4, i / 4 % 4, i / 16 % 4, i / 64}
		if sorted := slices.Sorted(slices.Values(order)); !slices.Equal(sorted, []int{0, 1, 2, 3}) {
			continue
		}
		s := mustMake(t, relay())
		for _, at := range order {
			mustPut(t, s, l[at])
		}
		mustBeSame(t, s, want, true)
		mustBegin(t, s.All(), true, whole...)
	}
}

package sequence_test

import (
	"iter"
	"reflect"
	"slices"
	"testing"

	"riffle/api"
	"riffle/sequence"
)

// op is an instruction, and its N, if it has one.
func op(o api.Op, n ...int64) api.Instr {
	return api.Instr{Op: o, N: slices.Concat(n, []int64{0})[0]}
}

func codeOf(parts ...[]api.Instr) []api.Instr {
	return slices.Concat(parts...)
}

// sends sends an event of a kind and a datum to a process, so much later.
func sends(kind int, data, delay, to int64) []api.Instr {
	return []api.Instr{op(api.OpPush, data), op(api.OpPush, delay), op(api.OpPush, to), op(api.OpSend, int64(kind))}
}

// counts tells the first variable, which is one more then.
func counts() []api.Instr {
	return []api.Instr{op(api.OpLoad), op(api.OpTell), op(api.OpLoad), op(api.OpPush, 1), op(api.OpAdd), op(api.OpStore)}
}

// tellsData tells the event's datum.
func tellsData() []api.Instr {
	return []api.Instr{op(api.OpData), op(api.OpTell)}
}

func proc(vars []int64, kinds ...[]api.Instr) api.Proc {
	return api.Proc{Program: api.Program{Vars: len(vars), Kinds: kinds}, Vars: vars}
}

// idle is a process that does nothing.
func idle() api.Proc {
	return proc(nil, nil)
}

func first(place int, time int64, to, kind int, data int64) api.Event {
	return api.Event{Key: api.Key{Time: time, Seq: int64(place)}, To: to, Kind: kind, Data: data}
}

func outside(time, seq int64, to, kind int, data int64) api.Event {
	return api.Event{Key: api.Key{Time: time, Origin: api.Outside, Seq: seq}, To: to, Kind: kind, Data: data}
}

// sent is an event that a process sent.
func sent(time int64, from int, seq int64, to, kind int, data int64) api.Event {
	return api.Event{Key: api.Key{Time: time, Origin: from, Seq: seq}, To: to, Kind: kind, Data: data}
}

// told is what is told at an event, in order.
func told(e api.Event, values ...int64) []api.Record {
	var l []api.Record
	for i, v := range values {
		l = append(l, api.Record{Key: e.Key, Proc: e.To, Nth: i, Value: v})
	}
	return l
}

// ticker is a process that sends itself an event each 10, and tells its count: it never ends.
func ticker() api.Model {
	return api.Model{
		Procs: []api.Proc{proc([]int64{0}, codeOf(counts(), sends(0, 0, 10, 1)))},
		First: []api.Event{first(0, 0, 1, 0, 0)},
	}
}

// ofIdle has so many processes that do nothing.
func ofIdle(procs int, firsts ...api.Event) api.Model {
	return api.Model{Procs: slices.Repeat([]api.Proc{idle()}, procs), First: firsts}
}

// relay has three processes: 1 sends to 2 and 3 at each of its events, and tells twice; 2 adds data up; 3 tells a number by chance, and sends to 2, two of one time.
func relay() api.Model {
	m := api.Model{
		Procs: []api.Proc{
			proc([]int64{5}, codeOf(counts(), tellsData(), sends(1, 7, 20, 2), sends(0, 8, 5, 3)), nil),
			proc([]int64{0, -1}, tellsData(), []api.Instr{op(api.OpLoad), op(api.OpData), op(api.OpAdd), op(api.OpStore)}),
			proc(nil, codeOf([]api.Instr{op(api.OpRand), op(api.OpTell)}, sends(1, 100, 15, 2), sends(0, 9, 15, 2)), nil),
		},
		First: []api.Event{first(0, 30, 1, 0, -3), first(1, 4, 2, 7, 0), first(2, 4, 1, 0, 2), first(3, 4, 3, 1, 1)},
	}
	for i := range m.Procs {
		m.Procs[i].Seed = int64(100 * i)
	}
	return m
}

func mustMake(t *testing.T, m api.Model) *sequence.Sequence {
	t.Helper()
	s, err := sequence.New(m)
	if err != api.OK || s == nil {
		t.Fatalf("New(%+v): %v, %v", m, s, err)
	}
	return s
}

// of is a model's sequence, in which these events were put.
func of(t *testing.T, m api.Model, l ...api.Event) *sequence.Sequence {
	t.Helper()
	s := mustMake(t, m)
	mustPut(t, s, l...)
	return s
}

// behind is a model's sequence of so many steps, in which these events were put at first.
func behind(t *testing.T, m api.Model, steps int, l ...api.Event) *sequence.Sequence {
	t.Helper()
	s := of(t, m, l...)
	goOn(t, s, steps)
	return s
}

func mustPut(t *testing.T, s *sequence.Sequence, l ...api.Event) {
	t.Helper()
	for _, e := range l {
		if err := s.Put(e); err != api.OK {
			t.Fatalf("Put(%+v): %v", e, err)
		}
	}
}

// goOn does so many steps.
func goOn(t *testing.T, s *sequence.Sequence, steps int) {
	t.Helper()
	for range steps {
		if e, l, err := s.Step(); err != api.OK {
			t.Fatalf("Step: %+v, %+v, %v", e, l, err)
		}
	}
}

// done is an event that was done, and what was told at it.
type done struct {
	event api.Event
	tells []api.Record
}

// begins are the first so many of what is gone over.
func begins(all iter.Seq2[api.Event, []api.Record], n int) []done {
	var l []done
	for e, tells := range all {
		if len(l) == n {
			break
		}
		l = append(l, done{e, slices.Concat(tells)})
	}
	return l
}

func sameDone(a, b done) bool {
	return a.event == b.event && slices.Equal(a.tells, b.tells)
}

// mustBegin asks for the first ones that are gone over, and, where there are to be no more, that it ends there.
func mustBegin(t *testing.T, all iter.Seq2[api.Event, []api.Record], ends bool, want ...done) {
	t.Helper()
	n := len(want)
	if ends {
		n++
	}
	if got := begins(all, n); !slices.EqualFunc(got, want, sameDone) {
		t.Fatalf("gone over: %+v, want %+v", got, want)
	}
}

func mustStep(t *testing.T, s *sequence.Sequence, want api.Event, values ...int64) {
	t.Helper()
	e, l, err := s.Step()
	if e != want || !slices.Equal(l, told(want, values...)) || err != api.OK {
		t.Fatalf("Step: %+v, %+v, %v, want %+v, %+v", e, l, err, want, told(want, values...))
	}
}

// mustNotStep asks for a refusal that changes nothing.
func mustNotStep(t *testing.T, s *sequence.Sequence, want api.Errno) {
	t.Helper()
	was := look(s)
	if e, l, err := s.Step(); e != (api.Event{}) || l != nil || err != want {
		t.Fatalf("Step: %+v, %+v, %v, want %v", e, l, err, want)
	}
	mustLook(t, s, was)
}

// mustNotPut asks for a refusal that changes nothing.
func mustNotPut(t *testing.T, s *sequence.Sequence, e api.Event, want api.Errno) {
	t.Helper()
	was, c := look(s), s.Copy()
	if err := s.Put(e); err != want {
		t.Fatalf("Put(%+v): %v, want %v", e, err, want)
	}
	mustLook(t, s, was)
	mustBeSame(t, s, c, true)
}

func mustStand(t *testing.T, s *sequence.Sequence, floor int64, done, waits int) {
	t.Helper()
	if s.Floor() != floor || s.Done() != done || s.Waits() != waits {
		t.Fatalf("Floor %d, Done %d, Waits %d; want %d, %d, %d", s.Floor(), s.Done(), s.Waits(), floor, done, waits)
	}
}

func mustHaveNext(t *testing.T, s *sequence.Sequence, want ...api.Event) {
	t.Helper()
	e, ok := s.Next()
	if ok != (len(want) > 0) || e != slices.Concat(want, []api.Event{{}})[0] {
		t.Fatalf("Next: %+v, %v, want %+v", e, ok, want)
	}
}

func mustHaveState(t *testing.T, s *sequence.Sequence, p int, sent, drawn int64, vars ...int64) {
	t.Helper()
	got, err := s.State(p)
	if err != api.OK || !slices.Equal(got.Vars, vars) || got.Sent != sent || got.Drawn != drawn {
		t.Fatalf("State(%d): %+v, %v, want %v, %d, %d", p, got, err, vars, sent, drawn)
	}
}

func mustBeSame(t *testing.T, s, o *sequence.Sequence, want bool) {
	t.Helper()
	if a, b := s.Same(o), o.Same(s); a != want || b != want {
		t.Fatalf("Same: %v, and the other way %v, want %v", a, b, want)
	}
}

// sight is all that a sequence tells of itself, and what comes of it.
type sight struct {
	floor       int64
	done, waits int
	next        api.Event
	is          bool
	states      []api.State
	ahead       []done
}

func look(s *sequence.Sequence) sight {
	v := sight{floor: s.Floor(), done: s.Done(), waits: s.Waits(), ahead: begins(s.All(), 40)}
	v.next, v.is = s.Next()
	for p := 1; ; p++ {
		state, err := s.State(p)
		if err != api.OK {
			return v
		}
		v.states = append(v.states, state)
	}
}

func mustLook(t *testing.T, s *sequence.Sequence, want sight) {
	t.Helper()
	if got := look(s); !reflect.DeepEqual(got, want) {
		t.Fatalf("it looks as %+v, want %+v", got, want)
	}
}

// The chapter's example.

func TestExample(t *testing.T) {
	s := mustMake(t, ticker())
	mustStep(t, s, first(0, 0, 1, 0, 0), 0)
	for i := range int64(50) {
		mustStep(t, s, sent(10*i+10, 1, i, 1, 0, 0), i+1)
	}
}

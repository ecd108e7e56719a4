package process_test

import (
	"reflect"
	"slices"
	"testing"

	"riffle/api"
	"riffle/process"
)

// op is an instruction, and its N, if it has one.
func op(o api.Op, n ...int64) api.Instr {
	return api.Instr{Op: o, N: slices.Concat(n, []int64{0})[0]}
}

func codeOf(parts ...[]api.Instr) []api.Instr {
	return slices.Concat(parts...)
}

func sends(kind int, data, delay, to int64) []api.Instr {
	return codeOf([]api.Instr{op(api.OpPush, data)}, sendsIt(kind, delay, to))
}

// sendsIt sends what stands on the stack.
func sendsIt(kind int, delay, to int64) []api.Instr {
	return []api.Instr{op(api.OpPush, delay), op(api.OpPush, to), op(api.OpSend, int64(kind))}
}

// folds makes the first variable 31 times as great and the datum, and tells it: in each order of events it comes to something else.
func folds() []api.Instr {
	return []api.Instr{
		op(api.OpLoad), op(api.OpPush, 31), op(api.OpMul), op(api.OpData), op(api.OpAdd), op(api.OpStore),
		op(api.OpLoad), op(api.OpTell),
	}
}

func proc(vars []int64, kinds ...[]api.Instr) api.Proc {
	return api.Proc{Program: api.Program{Vars: len(vars), Kinds: kinds}, Vars: vars}
}

// idle is a process that does nothing.
func idle() api.Proc {
	return proc(nil, nil)
}

// ofIdle has so many processes that do nothing.
func ofIdle(procs int, firsts ...api.Event) api.Model {
	return api.Model{Procs: slices.Repeat([]api.Proc{idle()}, procs), First: firsts}
}

// Kinds of what the folder does.
const (
	foldsAndSends = iota
	foldsAlone
	draws
	ofNoKind // its program does not have it
)

// start is the folder's first variable at first.
const start = 7

// folder is process 1 of three. At its first kind it sends what it folds to 2, 10 later, and the datum to 3, 3 later; at its third it draws a number, and sends it to itself, 5 later. Its first events are at 10 (datum 1), 20 (2) and 30 (3).
func folder() api.Model {
	m := api.Model{
		Procs: []api.Proc{
			proc([]int64{start, 0},
				codeOf(folds(), []api.Instr{op(api.OpLoad)}, sendsIt(1, 10, 2), []api.Instr{op(api.OpData)}, sendsIt(0, 3, 3)),
				folds(),
				codeOf([]api.Instr{op(api.OpRand), op(api.OpStore, 1), op(api.OpLoad, 1)}, sendsIt(1, 5, 1)),
			),
			proc(nil, nil, nil),
			idle(),
		},
		First: []api.Event{first(0, 30, 1, foldsAndSends, 3), first(1, 10, 1, foldsAndSends, 1), first(2, 10, 2, 0, 8), first(3, 20, 1, foldsAndSends, 2)},
	}
	m.Procs[0].Seed = 99
	return m
}

// fold is what the folder's first variable comes to.
func fold(data ...int64) int64 {
	v := int64(start)
	for _, d := range data {
		v = v*31 + d
	}
	return v
}

func first(place int, time int64, to, kind int, data int64) api.Event {
	return api.Event{Key: api.Key{Time: time, Seq: int64(place)}, To: to, Kind: kind, Data: data}
}

// event is one for process 1.
func event(time int64, origin int, seq int64, kind int, data int64) api.Event {
	return api.Event{Key: api.Key{Time: time, Origin: origin, Seq: seq}, To: 1, Kind: kind, Data: data}
}

// sent is what process 1 sent.
func sent(time, seq int64, to, kind int, data int64) api.Event {
	return api.Event{Key: api.Key{Time: time, Origin: 1, Seq: seq}, To: to, Kind: kind, Data: data}
}

func message(e api.Event, serial int64) api.Message {
	return api.Message{Event: e, Serial: serial}
}

func anti(m api.Message) api.Message {
	m.Anti = true
	return m
}

func back(m api.Message) api.Message {
	m.Back = true
	return m
}

func antis(l ...api.Message) []api.Message {
	l = slices.Clone(l)
	for i := range l {
		l[i].Anti = true
	}
	return l
}

func item(m api.Message) api.Item {
	return api.Item{Event: m.Event, Serial: m.Serial}
}

func items(l ...api.Message) []api.Item {
	var xs []api.Item
	for _, m := range l {
		xs = append(xs, item(m))
	}
	return xs
}

// firsts are the folder's first events as messages, by their places.
func firsts(places ...int) []api.Message {
	var l []api.Message
	for _, i := range places {
		l = append(l, message(folder().First[i], int64(i)))
	}
	return l
}

// pair is what the folder sends at a first kind's event: of this time and datum, where it has sent so many, and comes to this fold; from this serial on.
func pair(time, seq, data, folded, serial int64) []api.Message {
	return []api.Message{
		message(sent(time+10, seq, 2, 1, folded), serial),
		message(sent(time+3, seq+1, 3, 0, data), serial+1),
	}
}

// told is what is told at an event of process 1, in order.
func told(e api.Event, values ...int64) []api.Record {
	var l []api.Record
	for i, v := range values {
		l = append(l, api.Record{Key: e.Key, Proc: 1, Nth: i, Value: v})
	}
	return l
}

// everies are the ones that tests go through.
func everies() []int {
	return []int{1, 2, 3, 4, api.MaxEvery}
}

func mustMake(t *testing.T, m api.Model, proc, every int) *process.Process {
	t.Helper()
	p, err := process.New(m, proc, every)
	if err != api.OK || p == nil {
		t.Fatalf("New(%+v, %d, %d): %v, %v", m, proc, every, p, err)
	}
	return p
}

// behind is the folder behind so many runs.
func behind(t *testing.T, every, runs int) *process.Process {
	t.Helper()
	p := mustMake(t, folder(), 1, every)
	goOn(t, p, runs)
	return p
}

// goOn does so many runs.
func goOn(t *testing.T, p *process.Process, runs int) {
	t.Helper()
	for range runs {
		if l, err := p.Run(); err != api.OK {
			t.Fatalf("Run: %+v, %v", l, err)
		}
	}
}

// settle commits so many.
func settle(t *testing.T, p *process.Process, commits int) {
	t.Helper()
	for range commits {
		if x, l, err := p.Commit(); err != api.OK {
			t.Fatalf("Commit: %+v, %+v, %v", x, l, err)
		}
	}
}

func mustRun(t *testing.T, p *process.Process, want ...api.Message) {
	t.Helper()
	if l, err := p.Run(); err != api.OK || !slices.Equal(l, want) {
		t.Fatalf("Run: %+v, %v, want %+v", l, err, want)
	}
}

func mustTake(t *testing.T, p *process.Process, x api.Message, want ...api.Message) {
	t.Helper()
	if l, err := p.Take(x); err != api.OK || !slices.Equal(l, want) {
		t.Fatalf("Take(%+v): %+v, %v, want %+v", x, l, err, want)
	}
}

// mustTakeAll takes messages at which nothing goes out.
func mustTakeAll(t *testing.T, p *process.Process, l ...api.Message) {
	t.Helper()
	for _, x := range l {
		mustTake(t, p, x)
	}
}

func mustCommit(t *testing.T, p *process.Process, x api.Message, values ...int64) {
	t.Helper()
	got, l, err := p.Commit()
	if err != api.OK || got != item(x) || !slices.Equal(l, told(x.Event, values...)) {
		t.Fatalf("Commit: %+v, %+v, %v, want %+v, %v", got, l, err, item(x), values)
	}
}

// mustNotRun asks for a refusal that changes nothing.
func mustNotRun(t *testing.T, p *process.Process, want api.Errno) {
	t.Helper()
	mustStay(t, p, func() {
		if l, err := p.Run(); l != nil || err != want {
			t.Fatalf("Run: %+v, %v, want %v", l, err, want)
		}
	})
}

func mustNotTake(t *testing.T, p *process.Process, x api.Message, want api.Errno) {
	t.Helper()
	mustStay(t, p, func() {
		if l, err := p.Take(x); l != nil || err != want {
			t.Fatalf("Take(%+v): %+v, %v, want %v", x, l, err, want)
		}
	})
}

func mustNotCommit(t *testing.T, p *process.Process, want api.Errno) {
	t.Helper()
	mustStay(t, p, func() {
		if x, l, err := p.Commit(); x != (api.Item{}) || l != nil || err != want {
			t.Fatalf("Commit: %+v, %+v, %v, want %v", x, l, err, want)
		}
	})
}

// mustStay asks that something changes nothing of a process.
func mustStay(t *testing.T, p *process.Process, do func()) {
	t.Helper()
	was, c := look(p), p.Copy()
	do()
	mustLook(t, p, was)
	mustBeSame(t, p, c, true)
}

// place is a key, and whether there is one.
type place struct {
	key api.Key
	is  bool
}

func placeOf(k api.Key, is bool) place {
	return place{k, is}
}

// at is the first key of a list.
func at(l []api.Item) place {
	if len(l) == 0 {
		return place{}
	}
	return place{l[0].Key, true}
}

// sight is all that a process tells of itself.
type sight struct {
	least, first, last place
	state, base        api.State
	waits, log         []api.Item
	antis, room        int
}

func look(p *process.Process) sight {
	return sight{
		least: placeOf(p.Least()), first: placeOf(p.First()), last: placeOf(p.Last()),
		state: p.State(), base: p.Base(),
		waits: slices.Concat(p.Waits()), log: slices.Concat(p.Log()),
		antis: p.Antis(), room: p.Room(),
	}
}

func mustLook(t *testing.T, p *process.Process, want sight) {
	t.Helper()
	if got := look(p); !reflect.DeepEqual(got, want) {
		t.Fatalf("it looks as %+v, want %+v", got, want)
	}
}

// mustHave asks for a log and for what waits, and for all that comes of them.
func mustHave(t *testing.T, p *process.Process, log, waits []api.Message) {
	t.Helper()
	v, l, w := look(p), items(log...), items(waits...)
	slices.Reverse(l)
	last := at(l)
	slices.Reverse(l)
	if !slices.Equal(v.log, l) || !slices.Equal(v.waits, w) {
		t.Fatalf("the log is %+v, and %+v waits, want %+v and %+v", v.log, v.waits, l, w)
	}
	if v.least != at(w) || v.first != at(l) || v.last != last {
		t.Fatalf("Least %+v, First %+v, Last %+v of the log %+v, and of what waits, %+v", v.least, v.first, v.last, l, w)
	}
	if v.room != api.MaxEvents-len(l)-len(w) {
		t.Fatalf("Room is %d, where %d stand in the log, and %d wait", v.room, len(l), len(w))
	}
}

func mustHaveState(t *testing.T, got api.State, sent, drawn int64, vars ...int64) {
	t.Helper()
	if got.Sent != sent || got.Drawn != drawn || !slices.Equal(got.Vars, vars) {
		t.Fatalf("the state is %+v, want %v, sent %d, drawn %d", got, vars, sent, drawn)
	}
}

func mustBeSame(t *testing.T, p, o *process.Process, want bool) {
	t.Helper()
	if a, b := p.Same(o), o.Same(p); a != want || b != want {
		t.Fatalf("Same: %v, and the other way %v, want %v", a, b, want)
	}
}

// none are the processes that are none.
func none() map[string]*process.Process {
	return map[string]*process.Process{"nil": nil, "zero": new(process.Process)}
}

// The chapter's examples.

func TestExampleOfARollback(t *testing.T) {
	for _, every := range everies() {
		p := mustMake(t, folder(), 1, every)
		a, b, c := pair(10, 0, 1, fold(1), 1), pair(20, 2, 2, fold(1, 2), 3), pair(30, 4, 3, fold(1, 2, 3), 5)
		mustRun(t, p, a...)
		mustRun(t, p, b...)
		mustRun(t, p, c...)
		x := message(event(15, 2, 0, foldsAlone, 9), 1)
		mustTake(t, p, x, antis(slices.Concat(b, c)...)...)
		mustHave(t, p, firsts(1), slices.Concat([]api.Message{x}, firsts(3, 0)))
		mustHaveState(t, p.State(), 2, 0, fold(1), 0)
		mustRun(t, p)
		mustRun(t, p, pair(20, 2, 2, fold(1, 9, 2), 7)...)
		mustRun(t, p, pair(30, 4, 3, fold(1, 9, 2, 3), 9)...)
		mustHaveState(t, p.State(), 6, 0, fold(1, 9, 2, 3), 0)
	}
}

func TestExampleOfAnAntiThatComesAhead(t *testing.T) {
	x := message(event(15, 2, 0, foldsAlone, 9), 1)
	for runs := range 4 {
		p := behind(t, 2, runs)
		was, c := look(p), p.Copy()
		mustTake(t, p, anti(x))
		if p.Antis() != 1 {
			t.Fatalf("%d antis are kept", p.Antis())
		}
		mustTake(t, p, x)
		mustLook(t, p, was)
		mustBeSame(t, p, c, true)
	}
}

// The document's second example: it runs ahead to 100, an event of 50 comes.
func TestExampleOfTheWhole(t *testing.T) {
	m := folder()
	m.First = []api.Event{first(0, 20, 1, foldsAndSends, 1), first(1, 60, 1, foldsAndSends, 2), first(2, 100, 1, foldsAndSends, 3)}
	p := mustMake(t, m, 1, 2)
	goOn(t, p, 3)
	mustTake(t, p, message(event(50, 2, 0, foldsAlone, 4), 9), antis(slices.Concat(pair(60, 2, 2, fold(1, 2), 3), pair(100, 4, 3, fold(1, 2, 3), 5))...)...)
	mustRun(t, p)
	mustRun(t, p, pair(60, 2, 2, fold(1, 4, 2), 7)...)
	mustRun(t, p, pair(100, 4, 3, fold(1, 4, 2, 3), 9)...)
	for _, c := range [][]int64{{20, 1}, {50, 1, 4}, {60, 1, 4, 2}, {100, 1, 4, 2, 3}} {
		x, l, err := p.Commit()
		if err != api.OK || x.Time != c[0] || !slices.Equal(l, told(x.Event, fold(c[1:]...))) {
			t.Fatalf("Commit: %+v, %+v, %v", x, l, err)
		}
	}
}

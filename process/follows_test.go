package process_test

import (
	"math/rand"
	"slices"
	"testing"

	"riffle/api"
	"riffle/model"
	"riffle/order"
	"riffle/process"
	"riffle/sequence"
	"riffle/vm"
)

// slow is a process as its words tell it: what waits stands in a list in no order, no state is kept but the first one, and all is done again from there whenever a state is asked for.
type slow struct {
	model     api.Model
	proc      int
	committed []api.Item
	log       []slowDone
	waits     []api.Item
	antis     []slowName
	serial    int64
}

type slowDone struct {
	item api.Item
	sent []api.Message
	told []api.Record
}

type slowName struct {
	origin int
	serial int64
}

func nameOf(x api.Item) slowName {
	return slowName{x.Origin, x.Serial}
}

func newSlow(m api.Model, proc int) *slow {
	s := &slow{model: m, proc: proc}
	for _, e := range m.First {
		if e.To == proc {
			s.waits = append(s.waits, api.Item{Event: e, Serial: e.Seq})
		}
	}
	return s
}

// ahead is whether a comes ahead of b, by their keys, then by their serials.
func ahead(a, b api.Item) bool {
	switch {
	case a.Time != b.Time:
		return a.Time < b.Time
	case a.Origin != b.Origin:
		return a.Origin < b.Origin
	case a.Seq != b.Seq:
		return a.Seq < b.Seq
	}
	return a.Serial < b.Serial
}

// below is whether a's key is below b's.
func below(a, b api.Item) bool {
	b.Serial = a.Serial
	return ahead(a, b)
}

func (s *slow) step(from api.State, x api.Item) api.Step {
	p := s.model.Procs[s.proc-1]
	machine, _ := vm.New(p.Program, s.proc, len(s.model.Procs), p.Seed)
	step, err := machine.Run(from, x.Event)
	if err != api.OK {
		panic(err)
	}
	return step
}

func (s *slow) base() api.State {
	state := model.Start(s.model, s.proc)
	for _, x := range s.committed {
		state = s.step(state, x).State
	}
	return state
}

func (s *slow) state() api.State {
	state := s.base()
	for _, d := range s.log {
		state = s.step(state, d.item).State
	}
	return state
}

func (s *slow) sorted() []api.Item {
	l := slices.Clone(s.waits)
	slices.SortFunc(l, func(a, b api.Item) int {
		if ahead(a, b) {
			return -1
		}
		return 1
	})
	return l
}

func (s *slow) run() ([]api.Message, api.Errno) {
	if len(s.waits) == 0 {
		return nil, api.ErrNone
	}
	x := s.sorted()[0]
	s.waits = slices.DeleteFunc(s.waits, func(y api.Item) bool { return x == y })
	step := s.step(s.state(), x)
	d := slowDone{item: x, told: step.Tells}
	for _, e := range step.Sends {
		s.serial++
		d.sent = append(d.sent, message(e, s.serial))
	}
	s.log = append(s.log, d)
	return d.sent, api.OK
}

func (s *slow) commit() (api.Item, []api.Record, api.Errno) {
	if len(s.log) == 0 {
		return api.Item{}, nil, api.ErrNone
	}
	d := s.log[0]
	s.log = slices.Clone(s.log[1:])
	s.committed = append(s.committed, d.item)
	return d.item, d.told, api.OK
}

func (s *slow) rollBack(i int) []api.Message {
	var out []api.Message
	for _, d := range s.log[i:] {
		s.waits = append(s.waits, d.item)
		for _, m := range d.sent {
			out = append(out, anti(m))
		}
	}
	s.log = slices.Clone(s.log[:i])
	return out
}

func (s *slow) may(x api.Message) bool {
	if x.Time < 0 || x.Time > api.MaxTime || x.Origin < 0 || x.Origin > api.Outside || x.Seq < 0 || x.Seq > api.MaxSeq {
		return false
	}
	if x.To < 1 || x.To > len(s.model.Procs) || x.Kind < 0 || x.Kind >= api.MaxKinds || x.Serial < 0 {
		return false
	}
	if x.Back {
		return !x.Anti && x.Origin == s.proc
	}
	return x.To == s.proc
}

func (s *slow) take(m api.Message) ([]api.Message, api.Errno) {
	if !s.may(m) {
		return nil, api.ErrArg
	}
	x := item(m)
	isIt := func(y api.Item) bool { return nameOf(x) == nameOf(y) }
	waits, logged := slices.IndexFunc(s.waits, isIt), slices.IndexFunc(s.log, func(d slowDone) bool { return isIt(d.item) })
	undone := slices.Index(s.antis, nameOf(x))
	switch {
	case m.Back:
		return []api.Message{message(m.Event, m.Serial)}, api.OK
	case m.Anti && waits >= 0:
		s.waits = slices.Delete(s.waits, waits, waits+1)
		return nil, api.OK
	case m.Anti && logged >= 0:
		out := s.rollBack(logged)
		s.waits = slices.DeleteFunc(s.waits, isIt)
		return out, api.OK
	case m.Anti:
		if undone < 0 {
			s.antis = append(s.antis, nameOf(x))
		}
		return nil, api.OK
	case waits >= 0 || logged >= 0:
		return nil, api.ErrTwice
	case len(s.committed) > 0 && !below(s.committed[len(s.committed)-1], x):
		return nil, api.ErrTime
	case undone >= 0:
		s.antis = slices.Delete(s.antis, undone, undone+1)
		return nil, api.OK
	}
	return s.come(x)
}

func (s *slow) come(x api.Item) ([]api.Message, api.Errno) {
	was := *s
	was.waits = slices.Clone(s.waits)
	isFull := len(s.waits)+len(s.log) == api.MaxEvents
	var out []api.Message
	if i := slices.IndexFunc(s.log, func(d slowDone) bool { return below(x, d.item) }); i >= 0 {
		out = s.rollBack(i)
	}
	s.waits = append(s.waits, x)
	if !isFull {
		return out, api.OK
	}
	for i, y := range slices.Backward(s.sorted()) {
		if y.Origin != 0 && y.Origin != api.Outside {
			s.waits = slices.Delete(s.sorted(), i, i+1)
			return append(out, back(message(y.Event, y.Serial))), api.OK
		}
	}
	*s = was
	return nil, api.ErrFull
}

func mustBeAs(t *testing.T, p *process.Process, want *slow) {
	t.Helper()
	var log []api.Message
	for _, d := range want.log {
		log = append(log, message(d.item.Event, d.item.Serial))
	}
	var waits []api.Message
	for _, x := range want.sorted() {
		waits = append(waits, message(x.Event, x.Serial))
	}
	mustHave(t, p, log, waits)
	mustKeep(t, p, len(want.antis))
	s := want.state()
	mustHaveState(t, p.State(), s.Sent, s.Drawn, s.Vars...)
	s = want.base()
	mustHaveState(t, p.Base(), s.Sent, s.Drawn, s.Vars...)
	mustRise(t, p)
}

// mustRise asks that keys in the log rise, and stand below what waits; where a key stands twice, it is of unlike serials.
func mustRise(t *testing.T, p *process.Process) {
	t.Helper()
	log, waits := p.Log(), p.Waits()
	for i := 1; i < len(log); i++ {
		if below(log[i], log[i-1]) || log[i] == log[i-1] {
			t.Fatalf("the log has %+v behind %+v", log[i], log[i-1])
		}
	}
	for i := 1; i < len(waits); i++ {
		if !ahead(waits[i-1], waits[i]) {
			t.Fatalf("%+v waits behind %+v", waits[i], waits[i-1])
		}
	}
	if len(log) > 0 && len(waits) > 0 && (below(waits[0], log[len(log)-1]) || waits[0] == log[len(log)-1]) {
		t.Fatalf("%+v waits, and %+v is done", waits[0], log[len(log)-1])
	}
}

// drawnCode is any code that may be, of a program of so many variables and kinds.
func drawnCode(r *rand.Rand, vars, kinds int) []api.Instr {
	l := make([]api.Instr, r.Intn(30))
	for i := range l {
		o := api.Op(1 + r.Intn(int(api.OpEnd)))
		if r.Intn(3) == 0 {
			o = api.OpPush
		}
		switch o {
		case api.OpPush:
			l[i] = op(o, r.Int63n(40)-3)
		case api.OpLoad, api.OpStore:
			l[i] = op(o, r.Int63n(int64(vars)))
		case api.OpJump, api.OpZero:
			l[i] = op(o, r.Int63n(int64(len(l)+1)))
		case api.OpSend:
			l[i] = op(o, r.Int63n(int64(kinds)))
		default:
			l[i] = op(o)
		}
	}
	return l
}

func drawnModel(r *rand.Rand) api.Model {
	var m api.Model
	for range 1 + r.Intn(4) {
		vars, kinds := 1+r.Intn(3), 1+r.Intn(4)
		p := proc(make([]int64, vars))
		for range kinds {
			p.Program.Kinds = append(p.Program.Kinds, drawnCode(r, vars, kinds))
		}
		p.Seed = r.Int63()
		m.Procs = append(m.Procs, p)
	}
	for place := range r.Intn(8) {
		m.First = append(m.First, first(place, r.Int63n(30), 1+r.Intn(len(m.Procs)), r.Intn(5), r.Int63n(9)))
	}
	return m
}

// drawnMessage is one for a process, or its anti, or one that goes back; some may not come. Few names and keys are drawn, so that they come again.
func drawnMessage(r *rand.Rand, s *slow) api.Message {
	n := r.Int63n(12)
	x := message(event(r.Int63n(40), int([]int64{0, 1, 2, 3, api.MaxProcs, api.Outside}[r.Intn(6)]), n/2, r.Intn(5), r.Int63n(9)), n)
	if len(s.committed) > 0 && r.Intn(2) == 0 {
		x.Time += s.committed[len(s.committed)-1].Time
	}
	x.To = s.proc
	switch known := s.known(); r.Intn(12) {
	case 0:
		x.Origin, x.To = s.proc, 1+r.Intn(len(s.model.Procs))
		x.Back = true
	case 1, 2, 3:
		x.Anti = true
	case 4, 5:
		if len(known) > 0 {
			y := known[r.Intn(len(known))]
			x = anti(message(y.Event, y.Serial))
		}
	case 6:
		if len(known) > 0 { // at its key
			x.Key = known[r.Intn(len(known))].Key
		}
	case 7:
		switch r.Intn(6) {
		case 0:
			x.Serial = -1
		case 1:
			x.To++
		case 2:
			x.Anti, x.Back = true, true
		case 3:
			x.Back = true
		case 4:
			x.Time = -1
		case 5:
			x.Kind = api.MaxKinds
		}
	}
	return x
}

// known is what waits and what is in the log.
func (s *slow) known() []api.Item {
	l := slices.Clone(s.waits)
	for _, d := range s.log {
		l = append(l, d.item)
	}
	return l
}

// drawnAct does the same to the process as its words tell it, and to processes that keep states more or less often; it answers how it ended.
func drawnAct(t *testing.T, r *rand.Rand, want *slow, l []*process.Process) api.Errno {
	t.Helper()
	switch n := r.Intn(10); {
	case n < 4:
		out, err := want.run()
		for _, p := range l {
			if got, errno := p.Run(); !slices.Equal(got, out) || errno != err {
				t.Fatalf("Run: %+v, %v, want %+v, %v", got, errno, out, err)
			}
		}
		return err
	case n < 5:
		x, told, err := want.commit()
		for _, p := range l {
			if got, records, errno := p.Commit(); got != x || !slices.Equal(records, told) || errno != err {
				t.Fatalf("Commit: %+v, %+v, %v, want %+v, %+v, %v", got, records, errno, x, told, err)
			}
		}
		return err
	}
	return takeAlike(t, drawnMessage(r, want), want, l)
}

func takeAlike(t *testing.T, x api.Message, want *slow, l []*process.Process) api.Errno {
	t.Helper()
	out, err := want.take(x)
	for _, p := range l {
		if got, errno := p.Take(x); !slices.Equal(got, out) || errno != err {
			t.Fatalf("Take(%+v): %+v, %v, want %+v, %v", x, got, errno, out, err)
		}
	}
	return err
}

// P14.2, P14.3, P14.4, of any models and any acts: what comes is as the words tell it, whatever every is.

func TestAnyActs(t *testing.T) {
	count := map[api.Errno]int{}
	for seed := range int64(150) {
		r := rand.New(rand.NewSource(seed))
		m := drawnModel(r)
		proc := 1 + r.Intn(len(m.Procs))
		want := newSlow(model.Copy(m), proc)
		var l []*process.Process
		for _, every := range []int{1, 2, 3, 7, api.MaxEvery} {
			l = append(l, mustMake(t, m, proc, every))
		}
		for range 150 {
			count[drawnAct(t, r, want, l)]++
			for i, p := range l {
				mustBeAs(t, p, want)
				if r.Intn(10) == 0 {
					l[i] = p.Copy()
					mustBeSame(t, p, l[i], true)
				}
			}
		}
	}
	for _, err := range []api.Errno{api.OK, api.ErrArg, api.ErrTwice, api.ErrTime, api.ErrNone} {
		if count[err] < 100 {
			t.Errorf("%v came %d times", err, count[err])
		}
	}
}

func TestAnyActsInAFullRoom(t *testing.T) {
	count := map[api.Errno]int{}
	for seed := range int64(12) {
		r := rand.New(rand.NewSource(seed))
		m := drawnModel(r)
		want := newSlow(model.Copy(m), 1)
		l := []*process.Process{mustMake(t, m, 1, 1), mustMake(t, m, 1, 5), mustMake(t, m, 1, api.MaxEvery)}
		serial := int64(1000)
		fill := func(least int64) {
			for l[0].Room() > 0 {
				x := message(event(least+r.Int63n(60), api.Outside, serial, r.Intn(5), 3), serial)
				if seed%2 > 0 && r.Intn(40) == 0 { // the others have events from outside alone
					x.Origin = 2
				}
				takeAlike(t, x, want, l)
				serial++
			}
		}
		fill(0)
		for range 40 {
			count[drawnAct(t, r, want, l)]++
			for _, p := range l {
				mustBeAs(t, p, want)
			}
			if r.Intn(3) > 0 {
				fill(60)
			}
		}
	}
	if count[api.OK] < 100 || count[api.ErrFull] < 10 {
		t.Errorf("%d acts came to something, %d were refused by a full room", count[api.OK], count[api.ErrFull])
	}
}

// net is a few processes, and what is under way between them: it is delivered in any order, and committed as far as nothing that comes can be ahead of it.
type net struct {
	t      *testing.T
	r      *rand.Rand
	procs  []*process.Process
	under  []api.Message
	window int64 // how far ahead of what stands for good a process runs
	want   *sequence.Sequence
	count  struct{ antis, backs, full, commits int }
}

func newNet(t *testing.T, seed, window int64, m api.Model) *net {
	t.Helper()
	s, err := sequence.New(m)
	if err != api.OK {
		t.Fatal(err)
	}
	n := &net{t: t, r: rand.New(rand.NewSource(seed)), window: window, want: s}
	for proc := range m.Procs {
		n.procs = append(n.procs, mustMake(t, m, proc+1, 1+n.r.Intn(9)))
	}
	return n
}

func (n *net) goOut(l []api.Message) {
	for _, x := range l {
		if x.Anti {
			n.count.antis++
		}
		if x.Back {
			n.count.backs++
		}
	}
	n.under = append(n.under, l...)
}

// bound is the least key of all that waits or is under way.
func (n *net) bound() api.Key {
	bound := api.Key{Time: api.MaxTime + 1}
	for _, p := range n.procs {
		if k, ok := p.Least(); ok && order.Less(k, bound) {
			bound = k
		}
	}
	for _, x := range n.under {
		if order.Less(x.Key, bound) {
			bound = x.Key
		}
	}
	return bound
}

func (n *net) run(i int) {
	n.t.Helper()
	if k, ok := n.procs[i].Least(); !ok || k.Time > n.bound().Time+n.window {
		return
	}
	l, err := n.procs[i].Run()
	if err != api.OK {
		n.t.Fatal(err)
	}
	n.goOut(l)
}

// least is which one under way has the least key.
func (n *net) least() int {
	least := 0
	for i, x := range n.under {
		if order.Less(x.Key, n.under[least].Key) {
			least = i
		}
	}
	return least
}

// deliver lets the i-th one that is under way come, if there is one.
func (n *net) deliver(i int) {
	n.t.Helper()
	if i >= len(n.under) {
		return
	}
	x := n.under[i]
	to := x.To
	if x.Back {
		to = x.Origin
	}
	l, err := n.procs[to-1].Take(x)
	switch err {
	case api.ErrFull:
		n.count.full++
	case api.OK:
		n.under = slices.Delete(n.under, i, i+1)
		n.goOut(l)
	default:
		n.t.Fatalf("Take(%+v): %v", x, err)
	}
}

// commit commits the least first one of all logs, if nothing that waits or is under way is ahead of it.
func (n *net) commit() bool {
	n.t.Helper()
	least, from := n.bound(), -1
	for i, p := range n.procs {
		if k, ok := p.First(); ok && order.Less(k, least) {
			least, from = k, i
		}
	}
	if from < 0 {
		return false
	}
	x, told, err := n.procs[from].Commit()
	e, want, errno := n.want.Step()
	if x.Event != e || !slices.Equal(told, want) || err != errno {
		n.t.Fatalf("committed: %+v, %+v, %v, want %+v, %+v, %v", x, told, err, e, want, errno)
	}
	state, _ := n.want.State(from + 1)
	mustHaveState(n.t, n.procs[from].Base(), state.Sent, state.Drawn, state.Vars...)
	n.count.commits++
	return true
}

func (n *net) put(e api.Event) {
	if n.want.Put(e) == api.OK {
		n.goOut([]api.Message{message(e, e.Seq)})
	}
}

// act runs a process, or delivers something; and commits now and then.
func (n *net) act() {
	n.t.Helper()
	switch n.r.Intn(3) {
	case 0:
		n.run(n.r.Intn(len(n.procs)))
	case 1:
		n.deliver(n.r.Intn(len(n.under) + 1))
	case 2:
		n.deliver(n.least())
	}
	for n.r.Intn(2) == 0 && n.commit() {
	}
}

// end goes on till nothing waits, is in a log, or is under way.
func (n *net) end(acts int) {
	n.t.Helper()
	for i := 0; i < acts && n.want.Waits()+len(n.under) > 0; i++ {
		n.act()
	}
	if n.want.Waits()+len(n.under) > 0 {
		n.t.Fatalf("%d events are left, and %d are under way: %+v", n.want.Waits(), len(n.under), n.count)
	}
	for i, p := range n.procs {
		state, _ := n.want.State(i + 1)
		mustHave(n.t, p, nil, nil)
		mustKeep(n.t, p, 0)
		mustHaveState(n.t, p.State(), state.Sent, state.Drawn, state.Vars...)
	}
}

// spreads is a model of processes that send on, to one another, twice at each event, as long as the datum is above 0; what they fold is told.
func spreads(procs int) api.Model {
	less := []api.Instr{op(api.OpData), op(api.OpPush, 1), op(api.OpSub)}
	code := codeOf(folds(),
		[]api.Instr{op(api.OpPush), op(api.OpData), op(api.OpLess), op(api.OpZero, 29)},
		less, []api.Instr{op(api.OpRand), op(api.OpPush, 1<<54), op(api.OpLess), op(api.OpPush, 3), op(api.OpAdd), op(api.OpRand), op(api.OpSend)},
		less, []api.Instr{op(api.OpPush, 6), op(api.OpRand), op(api.OpSend)},
	)
	code[11].N = int64(len(code))
	var m api.Model
	for i := range procs {
		p := proc([]int64{start}, code)
		p.Seed = int64(i)
		m.Procs = append(m.Procs, p)
		m.First = append(m.First, first(i, int64(3*i), i+1, 0, 5))
	}
	return m
}

// P14.4, P0.2: whatever comes in whichever order, what is committed is what one event after another comes to.

func TestWhatIsCommittedIsOneEventAfterAnother(t *testing.T) {
	antis := 0
	for seed := range int64(60) {
		n := newNet(t, seed, seed%20, spreads(1+int(seed)%4))
		for i := range int64(300) {
			n.act()
			if n.r.Intn(20) == 0 {
				e := event(max(n.want.Floor(), 0)+n.r.Int63n(30), api.Outside, i, 0, n.r.Int63n(3))
				e.To = 1 + n.r.Intn(len(n.procs))
				n.put(e)
			}
			for _, p := range n.procs {
				mustRise(t, p)
			}
		}
		n.end(100000)
		antis += n.count.antis
	}
	if antis < 1000 {
		t.Errorf("%d antis alone went out", antis)
	}
}

// floods has a process that sends another one three events at each of its many own, to earlier and earlier times: more than there is room for.
func floods() api.Model {
	const ticks = 480
	at := func(n int64) []api.Instr { // to the time 3000 + n, less twice the own one
		return []api.Instr{op(api.OpTime), op(api.OpPush, 3000+n), op(api.OpTime), op(api.OpPush, 3), op(api.OpMul), op(api.OpSub), op(api.OpPush, 1), op(api.OpSend)}
	}
	ticker := codeOf(at(0), at(1), at(1), []api.Instr{
		op(api.OpTime), op(api.OpPush, ticks), op(api.OpLess), op(api.OpZero, 32),
		op(api.OpPush), op(api.OpPush, 1), op(api.OpPush, 2), op(api.OpSend),
	})
	return api.Model{Procs: []api.Proc{proc([]int64{start}, folds()), proc(nil, ticker)}, First: []api.Event{first(0, 0, 2, 0, 0)}}
}

func TestWhatIsCommittedWhereRoomsAreFull(t *testing.T) {
	for seed := range int64(3) {
		n := newNet(t, seed, api.MaxTime, floods())
		for range 481 {
			n.run(1)
			for range n.r.Intn(9) {
				n.deliver(n.r.Intn(len(n.under) + 1))
			}
			if n.r.Intn(3) == 0 {
				n.run(0)
			}
		}
		for range 400 { // from outside, where it is full
			n.deliver(n.r.Intn(len(n.under) + 1))
			n.put(event(4000+n.r.Int63n(9), api.Outside, n.r.Int63n(1000), 0, 4))
		}
		n.end(100000)
		if n.count.backs < 100 || n.count.antis > 0 || n.count.commits < 481*4+100 {
			t.Errorf("seed %d: %+v", seed, n.count)
		}
	}
}

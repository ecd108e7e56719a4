package process_test

import (
	"testing"

	"riffle/api"
	"riffle/process"
)

// P14.3: Same

func TestSameOfNone(t *testing.T) {
	zero := new(process.Process)
	mustBeSame(t, nil, nil, true)
	mustBeSame(t, nil, zero, true)
	mustBeSame(t, zero, zero, true)
	mustBeSame(t, zero, new(process.Process), true)
	for _, p := range []*process.Process{mustMake(t, ofIdle(1), 1, 1), mustMake(t, folder(), 3, 1), behind(t, 1, 2)} {
		mustBeSame(t, nil, p, false)
		mustBeSame(t, zero, p, false)
		mustBeSame(t, p, p, true)
	}
}

// mustDiffer asks that each of them is the same as itself, and its copy, alone.
func mustDiffer(t *testing.T, l []*process.Process) {
	t.Helper()
	for i, p := range l {
		for j, o := range l {
			if p.Same(o) != (i == j) || p.Same(o.Copy()) != (i == j) {
				t.Errorf("the %d-th and the %d-th: Same is %v", i, j, p.Same(o))
			}
		}
	}
}

func TestSameTellsEvery(t *testing.T) {
	for runs := range 4 {
		var l []*process.Process
		for every := 1; every <= api.MaxEvery; every++ {
			l = append(l, behind(t, every, runs))
		}
		mustDiffer(t, l)
	}
}

func TestSameTellsTheProcess(t *testing.T) {
	var l []*process.Process
	for proc := 1; proc <= api.MaxProcs; proc++ {
		l = append(l, mustMake(t, ofIdle(api.MaxProcs), proc, 1))
	}
	mustDiffer(t, l)
}

// Models are told apart also where they differ in what is none of the process's.
func TestSameTellsTheModel(t *testing.T) {
	var l []*process.Process
	for _, change := range []func(m *api.Model){
		func(m *api.Model) {},
		func(m *api.Model) { m.Procs[0].Vars[0]++ },
		func(m *api.Model) { m.Procs[0].Seed++ },
		func(m *api.Model) { m.Procs[0].Program.Kinds[1] = nil },
		func(m *api.Model) { m.Procs[0].Program.Kinds[0][1].N = 30 },
		func(m *api.Model) { m.Procs[1] = idle() },
		func(m *api.Model) { m.Procs[2].Seed = 1 },
		func(m *api.Model) { m.Procs = append(m.Procs, idle()) },
		func(m *api.Model) { m.First[0].Data++ },
		func(m *api.Model) { m.First[2].Data++ },
		func(m *api.Model) { m.First = m.First[:3] },
		func(m *api.Model) { m.First = append(m.First, first(4, 5, 3, 0, 0)) },
	} {
		m := folder()
		change(&m)
		l = append(l, mustMake(t, m, 1, 1))
	}
	mustDiffer(t, l)

	// and where what they did, and do, is the same
	a, b := ofIdle(2, first(0, 5, 1, 0, 0)), ofIdle(2, first(0, 5, 1, 0, 0))
	b.Procs[1].Seed = 4
	p, o := mustMake(t, a, 1, 1), mustMake(t, b, 1, 1)
	goOn(t, p, 1)
	goOn(t, o, 1)
	settle(t, p, 1)
	settle(t, o, 1)
	mustDiffer(t, []*process.Process{p, o})
}

func TestSameTellsWhatWaits(t *testing.T) {
	for _, origin := range []int{0, 2, api.MaxProcs - 1, api.MaxProcs} {
		x := message(event(5, origin, 4, foldsAlone, 0), 7)
		l := []*process.Process{behind(t, 1, 0)}
		for _, change := range []func(x *api.Message){
			func(x *api.Message) {},
			func(x *api.Message) { x.Time++ },
			func(x *api.Message) { x.Origin++ },
			func(x *api.Message) { x.Seq++ },
			func(x *api.Message) { x.Kind++ },
			func(x *api.Message) { x.Data++ },
			func(x *api.Message) { x.Serial++ },
		} {
			y := x
			change(&y)
			p := behind(t, 1, 0)
			mustTakeAll(t, p, y)
			l = append(l, p)
			o := p.Copy()
			goOn(t, o, 1) // and what is done
			l = append(l, o)
		}
		both := l[1].Copy()
		mustTakeAll(t, both, message(event(6, origin, 4, foldsAlone, 0), 8))
		mustDiffer(t, append(l, both))
	}
}

func TestSameTellsWhatIsDoneAndCommitted(t *testing.T) {
	var l []*process.Process
	for runs := range 4 {
		for commits := 0; commits <= runs; commits++ {
			p := behind(t, 2, runs)
			settle(t, p, commits)
			l = append(l, p)
		}
	}
	mustDiffer(t, l)
}

// What was sent by other serials is undone by others.
func TestSameTellsSerials(t *testing.T) {
	p, o := behind(t, 2, 2), behind(t, 2, 1)
	x := message(event(5, 2, 0, foldsAlone, 0), 0)
	again := func(p *process.Process, runs int) {
		t.Helper()
		p.Take(x)
		mustTake(t, p, anti(x))
		goOn(t, p, runs)
	}
	again(p, 2)
	again(o, 1)
	goOn(t, o, 1) // its serials are 3 to 6, those of the other one 5 to 8
	mustLook(t, p, look(o))
	mustBeSame(t, p, o, false)

	again(p, 0)
	again(o, 0) // now nothing is sent that stands, but how many were is not the same
	mustLook(t, p, look(o))
	mustBeSame(t, p, o, false)
	goOn(t, o, 1)
	again(o, 2)
	goOn(t, p, 2) // 9 to 12, both
	mustBeSame(t, p, o, true)
}

// The last one's serials are alike, but not those of the one ahead of it.
func TestSameTellsSerialsInTheLog(t *testing.T) {
	m := folder()
	m.First = nil
	a, b := message(event(1, 2, 0, foldsAndSends, 1), 0), message(event(2, 2, 1, foldsAndSends, 2), 1)
	p, o := mustMake(t, m, 1, 2), mustMake(t, m, 1, 2)
	mustTakeAll(t, p, a, b)
	goOn(t, p, 2)
	y := message(event(1, 3, 0, foldsAlone, 0), 0)
	p.Take(y)
	p.Take(anti(y))
	goOn(t, p, 1) // 1 and 2, then 5 and 6

	mustTakeAll(t, o, a)
	goOn(t, o, 1)
	x := message(event(0, 3, 0, foldsAlone, 0), 0)
	o.Take(x)
	o.Take(anti(x))
	goOn(t, o, 1)
	mustTakeAll(t, o, b)
	goOn(t, o, 1) // 3 and 4, then 5 and 6
	mustLook(t, p, look(o))
	mustBeSame(t, p, o, false)
	settle(t, p, 1)
	settle(t, o, 1)
	mustBeSame(t, p, o, true)
}

func TestSameTellsAntis(t *testing.T) {
	x := message(event(5, 2, 4, foldsAlone, 0), 7)
	l := []*process.Process{behind(t, 1, 2)}
	for _, c := range []struct {
		origin int
		serial int64
	}{{2, 7}, {2, 8}, {3, 7}, {0, 7}} {
		p := behind(t, 1, 2)
		y := x
		y.Origin, y.Serial = c.origin, c.serial
		mustTakeAll(t, p, anti(y))
		l = append(l, p)
	}
	both := l[1].Copy()
	mustTakeAll(t, both, anti(message(x.Event, 8)))
	mustDiffer(t, append(l, both))

	// what else an anti tells is of no meaning
	p, o := l[1].Copy(), l[0].Copy()
	y := x
	y.Time, y.Seq, y.Kind, y.Data = 90, 1, draws, 6
	mustTakeAll(t, o, anti(y))
	mustBeSame(t, p, o, true)
	mustTakeAll(t, p, x)
	mustTakeAll(t, o, x)
	mustBeSame(t, p, o, true)
	mustBeSame(t, p, l[0], true)
}

// The last committed key is told by what is too late.
func TestSameTellsTheLastCommittedKey(t *testing.T) {
	var l []*process.Process
	for _, k := range []api.Key{{Time: 3, Origin: 2, Seq: 4}, {Time: 4, Origin: 2, Seq: 4}, {Time: 3, Origin: 3, Seq: 4}, {Time: 3, Origin: 2, Seq: 5}, {}} {
		p := behind(t, 1, 0)
		mustTakeAll(t, p, message(event(k.Time, k.Origin, k.Seq, ofNoKind, 0), 9))
		goOn(t, p, 1)
		settle(t, p, 1)
		l = append(l, p)
	}
	mustDiffer(t, append(l, behind(t, 1, 0)))
	for _, p := range l {
		goOn(t, p, 1)
		settle(t, p, 1)
		mustBeSame(t, p, l[0], true) // all come to one key
	}
}

func TestSameTellsTheBase(t *testing.T) {
	var l []*process.Process
	for _, c := range [][2]int64{{foldsAlone, 1}, {foldsAlone, 2}, {draws, 0}, {ofNoKind, 0}} {
		p := behind(t, 1, 0)
		mustTakeAll(t, p, message(event(5, 2, 0, int(c[0]), c[1]), 0))
		goOn(t, p, 1)
		settle(t, p, 1)
		l = append(l, p)
	}
	mustDiffer(t, l)
}

// By whichever ways they came to it, and whichever states were kept between.
func TestSameByOtherWays(t *testing.T) {
	m := folder()
	m.First = nil
	var l []api.Message
	var data []int64
	for i := range int64(30) {
		l = append(l, message(event(10*i, 2, i, foldsAlone, i), i))
		data = append(data, i)
	}
	for _, every := range everies() {
		want := mustMake(t, m, 1, every)
		mustTakeAll(t, want, l...)
		goOn(t, want, 30)

		backwards := mustMake(t, m, 1, every)
		for i := range l {
			mustTakeAll(t, backwards, l[29-i])
			goOn(t, backwards, i+1)
		}
		mustBeSame(t, want, backwards, true)

		undone := mustMake(t, m, 1, every)
		mustTakeAll(t, undone, l...)
		goOn(t, undone, 17)
		for i, at := range []int64{165, 3, 88, 121, 122, 40} {
			x := message(event(at, 3, int64(i), foldsAlone, 9), int64(i))
			mustTakeAll(t, undone, x)
			goOn(t, undone, 4)
			mustTakeAll(t, undone, anti(x))
			goOn(t, undone, 5)
			mustTakeAll(t, undone, anti(message(x.Event, 90)), message(x.Event, 90))
		}
		goOn(t, undone, len(undone.Waits()))
		mustBeSame(t, want, undone, true)

		for i := range 30 {
			for _, p := range []*process.Process{want, backwards, undone} {
				mustCommit(t, p, l[i], fold(data[:i+1]...))
			}
			mustBeSame(t, want, backwards, true)
			mustBeSame(t, want, undone, true)
		}

		between := mustMake(t, m, 1, every)
		for i, x := range l {
			mustTakeAll(t, between, x)
			goOn(t, between, 1)
			mustCommit(t, between, x, fold(data[:i+1]...))
		}
		mustBeSame(t, want, between, true)
	}
}

func TestSameChangesNothing(t *testing.T) {
	p, o := behind(t, 2, 2), behind(t, 2, 3)
	wasP, wasO := look(p), look(o)
	mustBeSame(t, p, o, false)
	mustBeSame(t, p, nil, false)
	mustLook(t, p, wasP)
	mustLook(t, o, wasO)
}

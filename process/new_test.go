package process_test

import (
	"math"
	"reflect"
	"slices"
	"testing"

	"riffle/api"
	"riffle/process"
)

// P14.1

func mustNotMake(t *testing.T, m api.Model, proc, every int, want api.Errno) {
	t.Helper()
	if p, err := process.New(m, proc, every); p != nil || err != want {
		t.Errorf("process %d of %d, every %d: %v, %v, want %v", proc, len(m.Procs), every, p, err, want)
	}
}

// faults each change one thing of the folder, so that it may not be.
func faults() map[string]func(m *api.Model) {
	kind := func(l ...api.Instr) func(m *api.Model) {
		return func(m *api.Model) { m.Procs[2].Program.Kinds[0] = l }
	}
	return map[string]func(m *api.Model){
		"no process":             func(m *api.Model) { m.Procs = nil },
		"too many processes":     func(m *api.Model) { m.Procs = slices.Repeat([]api.Proc{idle()}, api.MaxProcs+1) },
		"a process too few":      func(m *api.Model) { m.Procs = m.Procs[:1] },
		"a program of no kind":   func(m *api.Model) { m.Procs[0].Program.Kinds = nil },
		"too many kinds":         func(m *api.Model) { m.Procs[2].Program.Kinds = make([][]api.Instr, api.MaxKinds+1) },
		"variables below 0":      func(m *api.Model) { m.Procs[2].Program.Vars = -1 },
		"too many variables":     func(m *api.Model) { m.Procs[2] = proc(make([]int64, api.MaxVars+1), nil) },
		"a variable more":        func(m *api.Model) { m.Procs[2].Vars = []int64{1} },
		"a variable less":        func(m *api.Model) { m.Procs[0].Vars = []int64{1} },
		"too much code":          kind(slices.Repeat([]api.Instr{op(api.OpEnd)}, api.MaxCode+1)...),
		"no operation":           kind(op(0)),
		"an operation too great": kind(op(api.OpEnd + 1)),
		"a number of a teller":   kind(op(api.OpTell, 1)),
		"no such variable":       kind(op(api.OpLoad, 0)),
		"a jump too far":         kind(op(api.OpJump, 2)),
		"no such kind":           kind(op(api.OpSend, 1)),
		"too many first events": func(m *api.Model) {
			m.First = nil
			for place := range api.MaxFirst + 1 {
				m.First = append(m.First, first(place, 1, 1, 0, 0))
			}
		},
		"a time below 0":         func(m *api.Model) { m.First[1].Time = -1 },
		"a time too great":       func(m *api.Model) { m.First[2].Time = api.MaxTime + 1 },
		"for no process":         func(m *api.Model) { m.First[1].To = 0 },
		"a process too many":     func(m *api.Model) { m.First[3].To = 4 },
		"a kind too great":       func(m *api.Model) { m.First[0].Kind = api.MaxKinds },
		"a process's origin":     func(m *api.Model) { m.First[2].Origin = 1 },
		"the next Seq":           func(m *api.Model) { m.First[3].Seq = 4 },
		"first events exchanged": func(m *api.Model) { m.First[0], m.First[1] = m.First[1], m.First[0] },
	}
}

func TestNewOfModelsThatMayNotBe(t *testing.T) {
	for name, change := range faults() {
		t.Run(name, func(t *testing.T) {
			m := folder()
			change(&m)
			for proc := 1; proc <= 3; proc++ {
				mustNotMake(t, m, proc, 1, api.ErrModel)
			}
			// what else is wrong is not told
			for _, proc := range []int{-1, 0, 4, 17} {
				mustNotMake(t, m, proc, 1, api.ErrModel)
				mustNotMake(t, m, proc, 0, api.ErrModel)
			}
			mustNotMake(t, m, 1, 0, api.ErrModel)
			mustNotMake(t, m, 1, api.MaxEvery+1, api.ErrModel)
		})
	}
	mustNotMake(t, api.Model{}, 0, 0, api.ErrModel)
}

func TestNewOfProcesses(t *testing.T) {
	for procs := 1; procs <= api.MaxProcs; procs++ {
		for _, proc := range []int{math.MinInt, -procs, -1, 0, 1, 2, procs - 1, procs, procs + 1, api.MaxProcs, api.Outside, 1<<32 + 1, math.MaxInt} {
			if proc < 1 || proc > procs {
				mustNotMake(t, ofIdle(procs), proc, 1, api.ErrArg)
				mustNotMake(t, ofIdle(procs), proc, 0, api.ErrArg)
				continue
			}
			p := mustMake(t, ofIdle(procs), proc, 1)
			e := event(5, api.Outside, 0, 0, 0)
			e.To = proc
			mustTake(t, p, message(e, 0))
			mustHave(t, p, nil, []api.Message{message(e, 0)})
		}
	}
}

func TestNewOfEveries(t *testing.T) {
	for _, every := range []int{math.MinInt, -64, -1, 0, 1, 2, 3, 63, 64, 65, 128, 1<<32 + 1, math.MaxInt} {
		if every < 1 || every > 64 {
			mustNotMake(t, folder(), 1, every, api.ErrArg)
		} else {
			mustHave(t, mustMake(t, folder(), 1, every), nil, firsts(1, 3, 0))
		}
	}
}

func TestANewOneHasItsFirstEvents(t *testing.T) {
	for _, every := range everies() {
		p := mustMake(t, folder(), 1, every)
		mustLook(t, p, sight{
			least: place{api.Key{Time: 10, Seq: 1}, true},
			state: api.State{Vars: []int64{start, 0}}, base: api.State{Vars: []int64{start, 0}},
			waits: []api.Item{{Event: first(1, 10, 1, 0, 1), Serial: 1}, {Event: first(3, 20, 1, 0, 2), Serial: 3}, {Event: first(0, 30, 1, 0, 3), Serial: 0}},
			room:  api.MaxEvents - 3,
		})
		p = mustMake(t, folder(), 2, every)
		mustLook(t, p, sight{
			least: place{api.Key{Time: 10, Seq: 2}, true},
			waits: []api.Item{{Event: first(2, 10, 2, 0, 8), Serial: 2}},
			room:  api.MaxEvents - 1,
		})
		mustLook(t, mustMake(t, folder(), 3, every), sight{room: api.MaxEvents})
	}
}

func TestNewOfSoManyFirstEvents(t *testing.T) {
	for _, n := range []int{0, 1, 2, 5, api.MaxFirst} {
		m := ofIdle(3)
		want := make([][]api.Message, 4)
		for i := range n {
			m.First = append(m.First, first(i, int64(7*i%5), 1+i%3, i%api.MaxKinds, int64(-i)))
			want[1+i%3] = append(want[1+i%3], message(m.First[i], int64(i)))
		}
		for proc := 1; proc <= 3; proc++ {
			slices.SortStableFunc(want[proc], func(a, b api.Message) int { return int(a.Time - b.Time) })
			mustHave(t, mustMake(t, m, proc, 1), nil, want[proc])
		}
	}
}

func TestNewKeepsNothingOfTheCallers(t *testing.T) {
	for name, change := range map[string]func(m *api.Model){
		"a variable":     func(m *api.Model) { m.Procs[0].Vars[0]++ },
		"an instruction": func(m *api.Model) { m.Procs[0].Program.Kinds[0][4] = op(api.OpSub) },
		"a kind":         func(m *api.Model) { m.Procs[0].Program.Kinds[0] = nil },
		"a process":      func(m *api.Model) { m.Procs[0] = idle() },
		"a first event":  func(m *api.Model) { m.First[1].Data++ },
	} {
		m := folder()
		p := mustMake(t, m, 1, 2)
		change(&m)
		mustBeSame(t, p, mustMake(t, folder(), 1, 2), true)
		goOn(t, p, 3)
		mustBeSame(t, p, behind(t, 2, 3), true)
		if v := p.State().Vars[0]; v != fold(1, 2, 3) {
			t.Errorf("%s is changed: it comes to %d", name, v)
		}
	}
}

func TestNothingIsDoneToAModel(t *testing.T) {
	m := folder()
	p := mustMake(t, m, 1, 2)
	goOn(t, p, 3)
	mustTake(t, p, message(event(1, 2, 0, draws, 9), 1), antis(slices.Concat(pair(10, 0, 1, fold(1), 1), pair(20, 2, 2, fold(1, 2), 3), pair(30, 4, 3, fold(1, 2, 3), 5))...)...)
	goOn(t, p, 4)
	settle(t, p, 4)
	if !reflect.DeepEqual(m, folder()) {
		t.Errorf("the model is %+v", m)
	}
}

func TestNewOnesOfOneModelGoOnApart(t *testing.T) {
	m := folder()
	p, o := mustMake(t, m, 1, 2), mustMake(t, m, 1, 2)
	goOn(t, p, 3)
	settle(t, p, 2)
	mustTake(t, p, anti(message(event(5, 2, 0, 0, 0), 1)))
	mustHave(t, o, nil, firsts(1, 3, 0))
	mustHaveState(t, o.State(), 0, 0, start, 0)
	mustHaveState(t, o.Base(), 0, 0, start, 0)
	mustBeSame(t, o, mustMake(t, m, 1, 2), true)
}

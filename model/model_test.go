package model_test

import (
	"math"
	"reflect"
	"slices"
	"strconv"
	"testing"

	"riffle/api"
	"riffle/model"
)

// teller is a program that tells the time.
func teller() api.Program {
	return api.Program{Kinds: [][]api.Instr{{{Op: api.OpTime}, {Op: api.OpTell}}}}
}

// idle is a program of so many variables that does nothing.
func idle(vars int) api.Program {
	return api.Program{Vars: vars, Kinds: [][]api.Instr{nil}}
}

func first(place int, time int64, to, kind int, data int64) api.Event {
	return api.Event{Key: api.Key{Time: time, Seq: int64(place)}, To: to, Kind: kind, Data: data}
}

// firsts are so many first events, of the process 1.
func firsts(n int) []api.Event {
	var l []api.Event
	for place := range n {
		l = append(l, first(place, int64(1000-place), 1, place%api.MaxKinds, -int64(place)))
	}
	return l
}

// example is the model of the document's example.
func example() api.Model {
	return api.Model{Procs: []api.Proc{{Program: teller(), Seed: 7}}, First: []api.Event{first(0, 3, 1, 0, 0)}}
}

// ofIdle has so many processes, each of one variable.
func ofIdle(procs, firstEvents int) api.Model {
	m := api.Model{First: firsts(firstEvents)}
	for i := range procs {
		m.Procs = append(m.Procs, api.Proc{Program: idle(1), Vars: []int64{int64(i)}, Seed: int64(-i)})
	}
	return m
}

// rich is a model of three unlike processes and four first events, in no order of their times; each call makes a new one.
func rich() api.Model {
	return api.Model{
		Procs: []api.Proc{
			{
				Program: api.Program{Vars: 2, Kinds: [][]api.Instr{
					{{Op: api.OpLoad, N: 1}, {Op: api.OpPush, N: -5}, {Op: api.OpAdd}, {Op: api.OpStore, N: 1}, {Op: api.OpSend, N: 1}},
					nil,
				}},
				Vars: []int64{300, -2},
				Seed: 0x0102030405060708,
			},
			{Program: teller(), Seed: -1},
			{Program: idle(api.MaxVars), Vars: []int64{1, -1, 0, math.MinInt64, math.MaxInt64, 256, -256, 10}, Seed: math.MinInt64},
		},
		First: []api.Event{first(0, 258, 3, 7, -3), first(1, 0, 1, 0, math.MaxInt64), first(2, api.MaxTime, 2, 1, math.MinInt64), first(3, 258, 3, 7, -3)},
	}
}

// most is as great a model as may be.
func most() api.Model {
	kind := slices.Repeat([]api.Instr{{Op: api.OpPush, N: math.MinInt64}}, api.MaxCode)
	p := api.Program{Vars: api.MaxVars, Kinds: slices.Repeat([][]api.Instr{kind}, api.MaxKinds)}
	m := api.Model{}
	for range api.MaxProcs {
		vars := slices.Repeat([]int64{math.MinInt64}, api.MaxVars)
		m.Procs = append(m.Procs, api.Proc{Program: p, Vars: vars, Seed: math.MinInt64})
	}
	for place := range api.MaxFirst {
		m.First = append(m.First, first(place, api.MaxTime, api.MaxProcs, api.MaxKinds-1, math.MinInt64))
	}
	return m
}

// but is the rich model with something changed.
func but(change func(m *api.Model)) api.Model {
	m := rich()
	change(&m)
	return m
}

// mayBe has models that may be, at all edges among them.
func mayBe() map[string]api.Model {
	m := map[string]api.Model{
		"the example":       example(),
		"rich":              rich(),
		"most of all":       most(),
		"no first event":    but(func(m *api.Model) { m.First = nil }),
		"empty lists":       {Procs: []api.Proc{{Program: idle(0), Vars: []int64{}}}, First: []api.Event{}},
		"processes alike":   {Procs: []api.Proc{{Program: teller()}, {Program: teller()}}},
		"a kind of no code": but(func(m *api.Model) { m.First[1].Kind = api.MaxKinds - 1 }),
		"the first process": but(func(m *api.Model) { m.First[0].To = 1 }),
		"the last process":  but(func(m *api.Model) { m.First[0].To = 3 }),
	}
	for _, n := range []int{1, 2, api.MaxProcs - 1, api.MaxProcs} {
		m[strconv.Itoa(n)+" processes"] = ofIdle(n, 0)
	}
	for _, n := range []int{1, 2, api.MaxFirst - 1, api.MaxFirst} {
		m[strconv.Itoa(n)+" first events"] = ofIdle(1, n)
	}
	for vars := range api.MaxVars + 1 {
		m[strconv.Itoa(vars)+" variables"] = api.Model{Procs: []api.Proc{{Program: idle(vars), Vars: make([]int64, vars)}}}
	}
	return m
}

// firstFaults change one thing of a first event of the rich model, so that it may not be.
func firstFaults() map[string]func(e *api.Event) {
	return map[string]func(e *api.Event){
		"a time below 0":        func(e *api.Event) { e.Time = -1 },
		"the least time":        func(e *api.Event) { e.Time = math.MinInt64 },
		"a time too great":      func(e *api.Event) { e.Time = api.MaxTime + 1 },
		"the greatest time":     func(e *api.Event) { e.Time = math.MaxInt64 },
		"no process":            func(e *api.Event) { e.To = 0 },
		"a process too many":    func(e *api.Event) { e.To = 4 },
		"a process of others":   func(e *api.Event) { e.To = api.MaxProcs },
		"a process below 0":     func(e *api.Event) { e.To = -1 },
		"a far process":         func(e *api.Event) { e.To = 256 + 1 },
		"a kind too many":       func(e *api.Event) { e.Kind = api.MaxKinds },
		"a kind below 0":        func(e *api.Event) { e.Kind = -1 },
		"a far kind":            func(e *api.Event) { e.Kind = 256 },
		"a process's origin":    func(e *api.Event) { e.Origin = 1 },
		"its process's origin":  func(e *api.Event) { e.Origin = e.To },
		"the origin of outside": func(e *api.Event) { e.Origin = api.Outside },
		"an origin below 0":     func(e *api.Event) { e.Origin = -1 },
		"an origin too great":   func(e *api.Event) { e.Origin = api.Outside + 1 },
		"the next Seq":          func(e *api.Event) { e.Seq++ },
		"the Seq ahead":         func(e *api.Event) { e.Seq-- },
		"a Seq below 0":         func(e *api.Event) { e.Seq = -1 },
		"the greatest Seq":      func(e *api.Event) { e.Seq = api.MaxSeq },
		"a Seq of a low byte":   func(e *api.Event) { e.Seq += 256 },
		"a Seq of a low word":   func(e *api.Event) { e.Seq += 1 << 32 },
	}
}

// programFaults are programs that may not be, each with as many variables as it says.
func programFaults() map[string]api.Proc {
	return map[string]api.Proc{
		"a program of no kind":           {},
		"a program of too many kinds":    {Program: api.Program{Kinds: make([][]api.Instr, api.MaxKinds+1)}},
		"a program of too many vars":     {Program: idle(api.MaxVars + 1), Vars: make([]int64, api.MaxVars+1)},
		"a program that is too long":     {Program: api.Program{Kinds: [][]api.Instr{slices.Repeat([]api.Instr{{Op: api.OpEnd}}, api.MaxCode+1)}}},
		"a program of another operation": {Program: api.Program{Kinds: [][]api.Instr{{{Op: api.OpEnd + 1}}}}},
		"a program of a send of no kind": {Program: api.Program{Kinds: [][]api.Instr{{{Op: api.OpSend, N: 1}}}}},
		"a program of a wrong variable":  {Program: api.Program{Vars: 1, Kinds: [][]api.Instr{{{Op: api.OpLoad, N: 1}}}}, Vars: []int64{0}},
		"a program of a far jump":        {Program: api.Program{Kinds: [][]api.Instr{{{Op: api.OpJump, N: 2}}}}},
		"a program of a stray N":         {Program: api.Program{Kinds: [][]api.Instr{{{Op: api.OpTell, N: 1}}}}},
	}
}

// mayNotBe has models in each of which one thing is wrong.
func mayNotBe() map[string]api.Model {
	l := map[string]api.Model{
		"nothing":                       {},
		"no process":                    but(func(m *api.Model) { m.Procs = nil }),
		"no process, no first event":    {Procs: []api.Proc{}, First: []api.Event{}},
		"a process too many":            ofIdle(api.MaxProcs+1, 0),
		"processes of a low byte":       ofIdle(256+1, 1),
		"a first event too many":        ofIdle(1, api.MaxFirst+1),
		"first events of a low byte":    ofIdle(1, 256+1),
		"a variable too few":            but(func(m *api.Model) { m.Procs[0].Vars = m.Procs[0].Vars[:1] }),
		"no variables":                  but(func(m *api.Model) { m.Procs[0].Vars = nil }),
		"a variable too many":           but(func(m *api.Model) { m.Procs[0].Vars = append(m.Procs[0].Vars, 0) }),
		"a variable of a program of 0":  but(func(m *api.Model) { m.Procs[1].Vars = []int64{0} }),
		"too few in the last process":   but(func(m *api.Model) { m.Procs[2].Vars = m.Procs[2].Vars[:7] }),
		"too many in the last process":  but(func(m *api.Model) { m.Procs[2].Vars = append(m.Procs[2].Vars, 0) }),
		"variables of a low byte":       but(func(m *api.Model) { m.Procs[1].Vars = make([]int64, 256) }),
		"variables that changed places": but(func(m *api.Model) { m.Procs[0].Vars, m.Procs[1].Vars = m.Procs[1].Vars, m.Procs[0].Vars }),
		"first events backwards":        but(func(m *api.Model) { slices.Reverse(m.First) }),
		"a first event left out":        but(func(m *api.Model) { m.First = slices.Delete(m.First, 1, 2) }),
		"a first event twice":           but(func(m *api.Model) { m.First[2] = m.First[1] }),
		"a process less":                but(func(m *api.Model) { m.Procs = m.Procs[:2] }),
	}
	for name, change := range firstFaults() {
		for place := range rich().First {
			l[name+" at "+strconv.Itoa(place)] = but(func(m *api.Model) { change(&m.First[place]) })
		}
	}
	for name, p := range programFaults() {
		for place := range rich().Procs {
			l[name+" at "+strconv.Itoa(place)] = but(func(m *api.Model) { m.Procs[place] = p })
		}
	}
	return l
}

// P9.1

func TestMay(t *testing.T) {
	for name, m := range mayBe() {
		if !model.May(m) {
			t.Errorf("%s may not be", name)
		}
	}
	for name, m := range mayNotBe() {
		if model.May(m) {
			t.Errorf("%s may be", name)
		}
	}
}

func TestMayOfHowManyProcessesAndFirstEvents(t *testing.T) {
	for procs := range 2 * api.MaxProcs {
		for _, n := range []int{0, 1, api.MaxFirst, api.MaxFirst + 1, 2 * api.MaxFirst} {
			want := procs >= 1 && procs <= 16 && n <= 64
			if model.May(ofIdle(procs, n)) != want {
				t.Errorf("%d processes, %d first events: %v", procs, n, !want)
			}
		}
	}
}

func TestMayOfVariablesByTheirProgram(t *testing.T) {
	for says := range api.MaxVars + 2 {
		for has := range api.MaxVars + 3 {
			m := api.Model{Procs: []api.Proc{{Program: idle(says), Vars: make([]int64, has)}}}
			if want := says == has && says <= 8; model.May(m) != want {
				t.Errorf("%d variables of a program of %d: %v", has, says, !want)
			}
		}
	}
}

func TestMayOfFirstEventsByHowManyProcesses(t *testing.T) {
	for procs := 1; procs <= api.MaxProcs; procs++ {
		for to := -1; to <= api.MaxProcs+2; to++ {
			m := ofIdle(procs, 3)
			m.First[2].To = to
			if want := to >= 1 && to <= procs; model.May(m) != want {
				t.Errorf("a first event for %d of %d: %v", to, procs, !want)
			}
		}
	}
}

func mustStart(t *testing.T, m api.Model, p int, want api.State) {
	t.Helper()
	was := model.Copy(m)
	if s := model.Start(m, p); !model.SameState(s, want) {
		t.Errorf("process %d: %v, want %v", p, s, want)
	}
	if !reflect.DeepEqual(m, was) {
		t.Errorf("%v was changed to %v", was, m)
	}
}

func TestStart(t *testing.T) {
	for _, m := range mayBe() {
		for i, p := range m.Procs {
			mustStart(t, m, i+1, api.State{Vars: p.Vars})
		}
	}
	mustStart(t, rich(), 1, api.State{Vars: []int64{300, -2}})
	mustStart(t, rich(), 2, api.State{})
	mustStart(t, rich(), 3, api.State{Vars: []int64{1, -1, 0, math.MinInt64, math.MaxInt64, 256, -256, 10}})
}

func TestStartOfNoSuchProcess(t *testing.T) {
	for _, m := range []api.Model{{}, {First: firsts(2)}, example(), rich(), ofIdle(api.MaxProcs, 1)} {
		n := len(m.Procs)
		for _, p := range []int{0, -1, n + 1, n + 2, -n, n + 256, 1<<32 + 1, math.MinInt, math.MaxInt} {
			if s := model.Start(m, p); !reflect.DeepEqual(s, api.State{}) {
				t.Errorf("process %d of %d: %v", p, n, s)
			}
		}
	}
}

func TestStartSharesNothing(t *testing.T) {
	room := []int64{300, -2, 5}
	m := but(func(m *api.Model) { m.Procs[0].Vars = room[:2] })
	s := model.Start(m, 1)
	again := model.Start(m, 1)
	s.Vars[0] = 9
	_ = append(s.Vars, 8)
	if !slices.Equal(room, []int64{300, -2, 5}) {
		t.Errorf("the model's variables were changed to %v", room)
	}
	clear(room)
	if !slices.Equal(again.Vars, []int64{300, -2}) {
		t.Errorf("a state was changed to %v", again.Vars)
	}
}

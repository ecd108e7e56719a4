package sequence_test

import (
	"reflect"
	"slices"
	"strconv"
	"testing"

	"riffle/api"
	"riffle/sequence"
)

// P13.1: New

// faults each change one thing of the relay, so that it may not be.
func faults() map[string]func(m *api.Model) {
	kind := func(l ...api.Instr) func(m *api.Model) {
		return func(m *api.Model) { m.Procs[1].Program.Kinds[0] = l }
	}
	return map[string]func(m *api.Model){
		"no process":             func(m *api.Model) { m.Procs = nil },
		"too many processes":     func(m *api.Model) { m.Procs = slices.Repeat([]api.Proc{idle()}, api.MaxProcs+1) },
		"a process too few":      func(m *api.Model) { m.Procs = m.Procs[:2] },
		"a program of no kind":   func(m *api.Model) { m.Procs[2].Program.Kinds = nil },
		"too many kinds":         func(m *api.Model) { m.Procs[2].Program.Kinds = make([][]api.Instr, api.MaxKinds+1) },
		"variables below 0":      func(m *api.Model) { m.Procs[2].Program.Vars = -1 },
		"too many variables":     func(m *api.Model) { m.Procs[2] = proc(make([]int64, api.MaxVars+1), nil) },
		"a variable more":        func(m *api.Model) { m.Procs[2].Vars = []int64{1} },
		"a variable less":        func(m *api.Model) { m.Procs[0].Vars = nil },
		"too much code":          kind(slices.Repeat([]api.Instr{op(api.OpEnd)}, api.MaxCode+1)...),
		"no operation":           kind(op(0)),
		"an operation too great": kind(op(api.OpEnd + 1)),
		"a number of a teller":   kind(op(api.OpTell, 1)),
		"no such variable":       kind(op(api.OpLoad, 2)),
		"a jump too far":         kind(op(api.OpJump, 2)),
		"no such kind":           kind(op(api.OpSend, 2)),
		"too many first events": func(m *api.Model) {
			m.First = nil
			for place := range api.MaxFirst + 1 {
				m.First = append(m.First, first(place, 1, 1, 0, 0))
			}
		},
		"a time below 0":        func(m *api.Model) { m.First[1].Time = -1 },
		"a time too great":      func(m *api.Model) { m.First[1].Time = api.MaxTime + 1 },
		"for no process":        func(m *api.Model) { m.First[1].To = 0 },
		"a process too many":    func(m *api.Model) { m.First[3].To = 4 },
		"a kind below 0":        func(m *api.Model) { m.First[0].Kind = -1 },
		"a kind too great":      func(m *api.Model) { m.First[0].Kind = api.MaxKinds },
		"a process's origin":    func(m *api.Model) { m.First[2].Origin = 1 },
		"the origin of outside": func(m *api.Model) { m.First[2].Origin = api.Outside },
		"the next Seq":          func(m *api.Model) { m.First[3].Seq = 4 },
		"a Seq twice":           func(m *api.Model) { m.First[3].Seq = 2 },
		"first events exchanged": func(m *api.Model) {
			m.First[0], m.First[1] = m.First[1], m.First[0]
		},
	}
}

func TestNewOfModelsThatMayNotBe(t *testing.T) {
	for name, change := range faults() {
		m := relay()
		change(&m)
		if s, err := sequence.New(m); s != nil || err != api.ErrModel {
			t.Errorf("%s: %v, %v, want %v", name, s, err, api.ErrModel)
		}
	}
	if s, err := sequence.New(api.Model{}); s != nil || err != api.ErrModel {
		t.Errorf("nothing: %v, %v, want %v", s, err, api.ErrModel)
	}
}

func TestNewOfSoManyProcesses(t *testing.T) {
	for _, procs := range []int{1, 2, 3, api.MaxProcs} {
		m := ofIdle(procs)
		for i := range m.Procs {
			m.Procs[i] = proc([]int64{int64(i), -7}, nil)
		}
		s := mustMake(t, m)
		mustStand(t, s, -1, 0, 0)
		mustHaveNext(t, s)
		mustNotStep(t, s, api.ErrNone)
		for p := 1; p <= procs; p++ {
			mustHaveState(t, s, p, 0, 0, int64(p-1), -7)
		}
	}
}

func TestNewOfSoManyFirstEvents(t *testing.T) {
	for _, n := range []int{0, 1, 2, 5, api.MaxFirst} {
		m := ofIdle(3)
		for place := range n {
			m.First = append(m.First, first(place, int64(place*37%n), 1+place%3, place%api.MaxKinds, int64(-place)))
		}
		s := mustMake(t, m)
		mustStand(t, s, -1, 0, n)
		want := slices.Clone(m.First)
		slices.SortFunc(want, func(a, b api.Event) int { return int(a.Time*100+a.Seq) - int(b.Time*100+b.Seq) })
		for i, e := range want {
			mustHaveNext(t, s, e)
			mustStep(t, s, e)
			mustStand(t, s, e.Time, i+1, n-i-1)
		}
		mustHaveNext(t, s)
	}
}

func TestNewAtTheEdgesOfTime(t *testing.T) {
	a, b, c := first(0, api.MaxTime, 1, 0, 0), first(1, 0, 1, 0, 0), first(2, api.MaxTime, 1, 0, 1)
	s := mustMake(t, ofIdle(1, a, b, c))
	mustStep(t, s, b)
	mustStand(t, s, 0, 1, 2)
	mustStep(t, s, a)
	mustStep(t, s, c)
	mustStand(t, s, api.MaxTime, 3, 0)
	mustNotStep(t, s, api.ErrNone)
}

// modelChanges each change what a caller still has of a relay that he gave.
func modelChanges() map[string]func(m *api.Model) {
	return map[string]func(m *api.Model){
		"a variable":       func(m *api.Model) { m.Procs[0].Vars[0]++ },
		"an instruction":   func(m *api.Model) { m.Procs[0].Program.Kinds[0][1] = op(api.OpStore) },
		"a number":         func(m *api.Model) { m.Procs[2].Program.Kinds[0][2].N++ },
		"a kind":           func(m *api.Model) { m.Procs[1].Program.Kinds[1] = nil },
		"a program":        func(m *api.Model) { m.Procs[0].Program = idle().Program },
		"a seed":           func(m *api.Model) { m.Procs[2].Seed++ },
		"a process":        func(m *api.Model) { m.Procs[2] = idle() },
		"a first event":    func(m *api.Model) { m.First[2].Data++ },
		"a time":           func(m *api.Model) { m.First[0].Time = 0 },
		"the first events": func(m *api.Model) { slices.Reverse(m.First) },
	}
}

func TestNewKeepsNothingOfTheCallers(t *testing.T) {
	for name, change := range modelChanges() {
		for _, steps := range []int{0, 1, 3} {
			m := relay()
			s := behind(t, m, steps)
			change(&m)
			mustLook(t, s, look(behind(t, relay(), steps)))
			if !s.Same(behind(t, relay(), steps)) {
				t.Errorf("%s, behind %d steps: it is not the same any more", name, steps)
			}
		}
	}
}

func TestNothingIsDoneToAModel(t *testing.T) {
	m := relay()
	s := of(t, m, outside(3, 0, 1, 0, 0), outside(90, 1, 2, 0, 0))
	for s.Waits() > 0 {
		goOn(t, s, 1)
	}
	if !reflect.DeepEqual(m, relay()) {
		t.Errorf("the model is %+v", m)
	}
}

func TestNewOnesOfOneModelGoOnApart(t *testing.T) {
	m := relay()
	a, b := mustMake(t, m), mustMake(t, m)
	was := look(b)
	mustPut(t, a, outside(5, 0, 1, 0, 0))
	goOn(t, a, 6)
	mustLook(t, b, was)
	mustPut(t, b, outside(5, 0, 1, 0, 0))
	goOn(t, b, 6)
	mustLook(t, b, look(a))
}

func TestExamplesOfManyProcesses(t *testing.T) {
	for procs := 1; procs <= api.MaxProcs; procs++ {
		t.Run(strconv.Itoa(procs), func(t *testing.T) {
			m := api.Model{First: []api.Event{first(0, 0, 1, 0, 0)}}
			for p := range procs { // each sends to the next one, and the last one to the first
				m.Procs = append(m.Procs, proc(nil, codeOf([]api.Instr{op(api.OpSelf), op(api.OpTell)}, sends(0, int64(p), 3, int64(p+2)))))
			}
			s := mustMake(t, m)
			mustStep(t, s, m.First[0], 1)
			for i := 1; i < 40; i++ {
				from, to := 1+(i-1)%procs, 1+i%procs
				mustStep(t, s, sent(int64(3*i), from, int64((i-1)/procs), to, 0, int64(from-1)), int64(to))
			}
		})
	}
}

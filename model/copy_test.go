package model_test

import (
	"math"
	"reflect"
	"slices"
	"testing"

	"riffle/api"
	"riffle/model"
)

// P9.3

func TestCopyIsTheSame(t *testing.T) {
	for _, models := range []map[string]api.Model{mayBe(), mayNotBe()} {
		for name, m := range models {
			if c := model.Copy(m); !reflect.DeepEqual(c, m) || !model.Same(c, m) || !model.Same(m, c) {
				t.Errorf("%s: %v, want %v", name, c, m)
			}
		}
	}
}

// changes each change one thing of the rich model, in place or by another list.
func changes() map[string]func(m *api.Model) {
	return map[string]func(m *api.Model){
		"an operation": func(m *api.Model) { m.Procs[0].Program.Kinds[0][2].Op = api.OpSub },
		"an N":         func(m *api.Model) { m.Procs[0].Program.Kinds[0][1].N++ },
		"an instruction more": func(m *api.Model) {
			m.Procs[1].Program.Kinds[0] = append(m.Procs[1].Program.Kinds[0], api.Instr{Op: api.OpEnd})
		},
		"an instruction less":   func(m *api.Model) { m.Procs[1].Program.Kinds[0] = m.Procs[1].Program.Kinds[0][:1] },
		"a kind's code":         func(m *api.Model) { m.Procs[0].Program.Kinds[1] = []api.Instr{{Op: api.OpEnd}} },
		"a kind more":           func(m *api.Model) { m.Procs[2].Program.Kinds = append(m.Procs[2].Program.Kinds, nil) },
		"kinds exchanged":       func(m *api.Model) { slices.Reverse(m.Procs[0].Program.Kinds) },
		"how many variables":    func(m *api.Model) { m.Procs[0].Program.Vars++ },
		"the first variable":    func(m *api.Model) { m.Procs[0].Vars[0]++ },
		"the last variable":     func(m *api.Model) { m.Procs[2].Vars[7] = -10 },
		"a variable more":       func(m *api.Model) { m.Procs[0].Vars = append(m.Procs[0].Vars, 0) },
		"a variable less":       func(m *api.Model) { m.Procs[0].Vars = m.Procs[0].Vars[:1] },
		"variables exchanged":   func(m *api.Model) { slices.Reverse(m.Procs[0].Vars) },
		"a seed":                func(m *api.Model) { m.Procs[2].Seed++ },
		"the first seed":        func(m *api.Model) { m.Procs[0].Seed ^= 1 << 40 },
		"a process":             func(m *api.Model) { m.Procs[1] = m.Procs[2] },
		"a process more":        func(m *api.Model) { m.Procs = append(m.Procs, m.Procs[0]) },
		"a process less":        func(m *api.Model) { m.Procs = m.Procs[:2] },
		"no processes":          func(m *api.Model) { m.Procs = nil },
		"processes exchanged":   func(m *api.Model) { slices.Reverse(m.Procs) },
		"a time":                func(m *api.Model) { m.First[0].Time++ },
		"an origin":             func(m *api.Model) { m.First[1].Origin = 1 },
		"a Seq":                 func(m *api.Model) { m.First[2].Seq = 9 },
		"whom it is for":        func(m *api.Model) { m.First[3].To = 1 },
		"its kind":              func(m *api.Model) { m.First[0].Kind = 0 },
		"its datum":             func(m *api.Model) { m.First[3].Data = 3 },
		"a first event more":    func(m *api.Model) { m.First = append(m.First, m.First[0]) },
		"a first event less":    func(m *api.Model) { m.First = m.First[:3] },
		"no first events":       func(m *api.Model) { m.First = nil },
		"first events backward": func(m *api.Model) { slices.Reverse(m.First) },
	}
}

func TestCopySharesNothing(t *testing.T) {
	for name, change := range changes() {
		m := rich()
		c := model.Copy(m)
		change(&c)
		if !reflect.DeepEqual(m, rich()) {
			t.Errorf("%s: changed through its copy to %v", name, m)
		}
		c = model.Copy(m)
		change(&m)
		if !reflect.DeepEqual(c, rich()) {
			t.Errorf("%s: a copy changed to %v", name, c)
		}
	}
}

func TestCopyGivesNoRoomBehindItsLists(t *testing.T) {
	vars, events, procs := []int64{300, -2, 5, 6}, append(rich().First, firsts(3)...), append(rich().Procs, api.Proc{Seed: 4})
	m := rich()
	m.Procs, m.First = procs[:3], events[:4]
	m.Procs[0].Vars = vars[:2]
	c := model.Copy(m)
	_ = append(c.Procs[0].Vars, 1, 1)
	_ = append(c.First, firsts(1)...)
	_ = append(c.Procs, api.Proc{})
	if !slices.Equal(vars, []int64{300, -2, 5, 6}) || !slices.Equal(events[4:], firsts(3)) || procs[3].Seed != 4 {
		t.Errorf("what lies behind the model's lists was changed to %v, %v, %v", vars, events, procs)
	}
}

func TestCopyOfListsThatAreOne(t *testing.T) {
	vars := []int64{1}
	m := api.Model{Procs: slices.Repeat([]api.Proc{{Program: idle(1), Vars: vars}}, 3)}
	c := model.Copy(m)
	c.Procs[0].Vars[0] = 2
	c.Procs[0].Program.Kinds[0] = []api.Instr{{Op: api.OpEnd}}
	if c.Procs[1].Vars[0] != 1 || len(c.Procs[1].Program.Kinds[0]) != 0 {
		t.Error("two lists of a copy are one")
	}
}

func TestSameButForOnePart(t *testing.T) {
	unlike := []api.Model{{}, example(), rich(), most(), ofIdle(1, 0), ofIdle(2, 0), ofIdle(1, 1), {First: firsts(1)}}
	for _, change := range changes() {
		unlike = append(unlike, but(change))
	}
	for i, a := range unlike {
		for j, b := range unlike {
			if model.Same(a, b) != (i == j) {
				t.Errorf("%v and %v: %v", a, b, i != j)
			}
		}
	}
}

func TestSameByWhatListsHold(t *testing.T) {
	if !model.Same(rich(), rich()) {
		t.Error("two that were made alike are not the same")
	}
	if !model.Same(api.Model{}, api.Model{Procs: []api.Proc{}, First: []api.Event{}}) {
		t.Error("two of nothing are not the same")
	}
	a := api.Model{Procs: []api.Proc{{Program: idle(0)}}}
	b := api.Model{Procs: []api.Proc{{Program: api.Program{Kinds: [][]api.Instr{{}}}, Vars: []int64{}}}, First: []api.Event{}}
	if !model.Same(a, b) || !model.Same(b, a) {
		t.Error("two of empty lists are not the same")
	}
}

func states() []api.State {
	return []api.State{
		{}, {Sent: 1}, {Sent: -1}, {Drawn: 1}, {Sent: 1, Drawn: 1}, {Sent: math.MaxInt64}, {Drawn: math.MinInt64}, {Sent: 2}, {Drawn: 2},
		{Vars: []int64{0}}, {Vars: []int64{1}}, {Vars: []int64{0, 0}}, {Vars: []int64{0, 1}}, {Vars: []int64{1, 0}}, {Vars: []int64{math.MinInt64}},
		{Vars: []int64{1}, Sent: 1}, {Vars: []int64{1}, Drawn: 1}, {Vars: []int64{1}, Sent: 1, Drawn: 1}, {Vars: []int64{1}, Sent: 1, Drawn: 2},
		{Vars: make([]int64, api.MaxVars)}, {Vars: make([]int64, api.MaxVars+1)}, {Vars: make([]int64, 300), Sent: 4, Drawn: 5},
	}
}

func TestCopyStateIsTheSame(t *testing.T) {
	for _, s := range states() {
		if c := model.CopyState(s); !reflect.DeepEqual(c, s) || !model.SameState(c, s) {
			t.Errorf("%v, want %v", c, s)
		}
	}
}

func TestCopyStateSharesNothing(t *testing.T) {
	room := []int64{7, 8, 9}
	s := api.State{Vars: room[:2], Sent: 3, Drawn: 4}
	c := model.CopyState(s)
	again := model.CopyState(s)
	_ = append(c.Vars, 1)
	c.Vars[0], c.Sent, c.Drawn = 1, 1, 1
	if !slices.Equal(room, []int64{7, 8, 9}) || s.Sent != 3 || s.Drawn != 4 {
		t.Errorf("changed through its copy to %v, %v", s, room)
	}
	clear(room)
	if want := (api.State{Vars: []int64{7, 8}, Sent: 3, Drawn: 4}); !reflect.DeepEqual(again, want) {
		t.Errorf("a copy changed to %v", again)
	}
}

func TestSameState(t *testing.T) {
	for i, a := range states() {
		for j, b := range states() {
			if model.SameState(a, b) != (i == j) {
				t.Errorf("%v and %v: %v", a, b, i != j)
			}
		}
	}
	if !model.SameState(api.State{Sent: 2}, api.State{Vars: []int64{}, Sent: 2}) {
		t.Error("two of no variables are not the same")
	}
}

func TestNothingThatIsLookedAtIsChanged(t *testing.T) {
	m := rich()
	model.May(m)
	model.Same(m, m)
	model.Copy(m)
	model.Bytes(m)
	model.Text(m)
	model.Start(m, 1)
	if !reflect.DeepEqual(m, rich()) {
		t.Errorf("changed to %v", m)
	}
	room := []int64{300, -2, 5}
	m.Procs[0].Vars = room[:2]
	model.Bytes(m)
	model.Text(m)
	if room[2] != 5 {
		t.Errorf("what lies behind the variables was changed to %v", room)
	}
}

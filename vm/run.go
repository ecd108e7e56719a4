package vm

import (
	"slices"

	"riffle/api"
)

// run is how far a run at an event is.
type run struct {
	machine *Machine
	event   api.Event
	code    []api.Instr
	next    int      // which instruction comes next
	step    api.Step // what the run has come to
	stack   []int64
}

func newRun(m *Machine, s api.State, e api.Event) *run {
	var room [api.MaxStack]int64
	return &run{
		machine: m,
		event:   e,
		code:    m.code(e.Kind),
		step:    api.Step{State: api.State{Vars: slices.Clone(s.Vars), Sent: s.Sent, Drawn: s.Drawn}},
		stack:   room[:0:api.MaxStack],
	}
}

// whole goes on to the run's end.
func (r *run) whole() api.Step {
	does := operations()
	for fuel := api.MaxFuel; fuel > 0 && r.next < len(r.code); fuel-- {
		i := r.code[r.next]
		r.next++
		does[i.Op](r, i.N)
	}
	return r.step
}

// push lets be what the stack has no room for.
func (r *run) push(n int64) {
	if len(r.stack) < api.MaxStack {
		r.stack = append(r.stack, n)
	}
}

// take is 0 where nothing is there.
func (r *run) take() int64 {
	last := len(r.stack) - 1
	if last < 0 {
		return 0
	}
	n := r.stack[last]
	r.stack = r.stack[:last]
	return n
}

// takeTwo takes b, then a.
func (r *run) takeTwo() (a, b int64) {
	b = r.take()
	a = r.take()
	return a, b
}

func (r *run) pushTruth(is bool) {
	if is {
		r.push(1)
	} else {
		r.push(0)
	}
}

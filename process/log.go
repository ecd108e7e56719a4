package process

import (
	"slices"
	"sort"

	"riffle/api"
	"riffle/order"
)

// done is what the log has of an item: what it sent and told; and the state ahead of it, if that one is kept.
type done struct {
	api.Item
	sent   []api.Message
	told   []api.Record
	isKept bool
	state  api.State
}

func (d *done) keep(s api.State) {
	d.isKept, d.state = true, s
}

// keepsNext is whether the state is kept ahead of what is done next. That of the first one always is, so that there is one to go on from.
func (p *Process) keepsNext() bool {
	latest := p.log[max(len(p.log)-p.every+1, 0):]
	return !slices.ContainsFunc(latest, func(d done) bool { return d.isKept })
}

// ahead is the state ahead of the i-th one of the log (behind all of it, where there is none).
func (p *Process) ahead(i int) api.State {
	if i == len(p.log) {
		return p.state
	}
	from := i
	for !p.log[from].isKept {
		from--
	}
	s := p.log[from].state
	for _, d := range p.log[from:i] {
		s = p.step(s, d.Item).State
	}
	return s
}

// find is where an item of a name stands in the log (-1: nowhere).
func (p *Process) find(n name) int {
	return slices.IndexFunc(p.log, func(d done) bool { return named(d.Item) == n })
}

// above is where the first one of the log stands whose key is greater (behind all, where there is none).
func (p *Process) above(k api.Key) int {
	return sort.Search(len(p.log), func(i int) bool { return order.Less(k, p.log[i].Key) })
}

// rollBack undoes all that stands in the log from the i-th one on, and tells the antis of what was sent there. The third index keeps what is done next from being written over what is undone.
func (p *Process) rollBack(i int) []api.Message {
	undone := p.log[i:]
	p.state = p.ahead(i)
	p.log = p.log[:i:i]
	for _, d := range slices.Backward(undone) {
		p.waits.put(d.Item)
	}
	var antis []api.Message
	for _, d := range undone {
		antis = append(antis, antisOf(d.sent)...)
	}
	return antis
}

func antisOf(sent []api.Message) []api.Message {
	antis := slices.Clone(sent)
	for i := range antis {
		antis[i].Anti = true
	}
	return antis
}

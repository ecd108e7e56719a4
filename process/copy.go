package process

import (
	"maps"
	"slices"

	"riffle/model"
)

// Copy is one that goes on apart. The model, the machine, and what the log has of an item are had in common, since nothing ever changes them.
func (p *Process) Copy() *Process {
	if p.isNone() {
		return nil
	}
	c := *p
	c.waits = p.waits.copy()
	c.log = slices.Clone(p.log)
	c.antis = maps.Clone(p.antis)
	return &c
}

// Same is whether both are the same in everything, by whichever ways they came to it. The state, and what was told, come of the base and the log's items; which states are kept is not told.
func (p *Process) Same(o *Process) bool {
	if p.isNone() || o.isNone() {
		return p.isNone() && o.isNone()
	}
	return p.every == o.every && p.serial == o.serial && p.last == o.last &&
		p.machine.Self() == o.machine.Self() &&
		model.SameState(p.base, o.base) &&
		slices.EqualFunc(p.log, o.log, sameDone) &&
		p.waits.same(o.waits) &&
		maps.Equal(p.antis, o.antis) &&
		model.Same(p.model, o.model)
}

func sameDone(a, b done) bool {
	return a.Item == b.Item && slices.Equal(a.sent, b.sent)
}

package process

import (
	"slices"

	"riffle/api"
	"riffle/order"
)

// Take lets a message come, and tells what goes out: antis, then the one that goes back.
func (p *Process) Take(x api.Message) ([]api.Message, api.Errno) {
	if err := p.mayTake(x); err != nil {
		return nil, number(err)
	}
	return p.come(x), api.OK
}

func (p *Process) mayTake(x api.Message) error {
	switch {
	case p.isNone():
		return refuse("take", api.ErrNil)
	case !p.mayCome(x):
		return refuse("take", api.ErrArg)
	case x.Anti || x.Back:
		return nil
	case p.has(named(itemOf(x))):
		return refuse("take", api.ErrTwice)
	case !order.Less(p.last, x.Key):
		return refuse("take", api.ErrTime)
	case !p.isUndone(named(itemOf(x))) && p.Room() == 0 && !p.couldGiveBack(itemOf(x)):
		return refuse("take", api.ErrFull)
	}
	return nil
}

// mayCome is whether a message is one, and comes to the right process: to the origin of what goes back.
func (p *Process) mayCome(x api.Message) bool {
	to := x.To
	if x.Back {
		to = x.Origin
	}
	return order.May(x.Event, len(p.model.Procs)) && to == p.machine.Self() && x.Serial >= 0 && !(x.Anti && x.Back)
}

// has is whether an item of a name waits, or is in the log.
func (p *Process) has(n name) bool {
	return p.waits.has(n) || p.find(n) >= 0
}

// isUndone is whether the anti of an item of a name is there.
func (p *Process) isUndone(n name) bool {
	_, ok := p.antis[n]
	return ok
}

// come lets a message come that may.
func (p *Process) come(x api.Message) []api.Message {
	var out []api.Message
	n := named(itemOf(x))
	switch at := p.find(n); {
	case x.Back:
		out = []api.Message{{Event: x.Event, Serial: x.Serial}}
	case x.Anti && at >= 0:
		out = p.rollBack(at)
		fallthrough // what it undoes waits now
	case x.Anti && p.waits.has(n):
		p.waits.drop(n)
	case x.Anti:
		p.antis[n] = struct{}{}
	case p.isUndone(n):
		delete(p.antis, n)
	case p.above(x.Key) < len(p.log):
		out = p.rollBack(p.above(x.Key))
		fallthrough // nothing in the log is above it now
	default:
		out = append(out, p.wait(itemOf(x))...)
	}
	return out
}

// wait lets an item wait. Where there is no room for it, what is furthest ahead goes back: this one itself, or another one, in whose place it is put then.
func (p *Process) wait(x api.Item) []api.Message {
	if p.Room() > 0 {
		p.waits.put(x)
		return nil
	}
	back, ok := p.waits.furthest()
	if !ok || isOfProcess(x) && compare(back, x) < 0 {
		back = x
	} else {
		p.waits.drop(named(back))
		p.waits.put(x)
	}
	return []api.Message{{Event: back.Event, Serial: back.Serial, Back: true}}
}

// couldGiveBack is whether something could go back, did this item wait: itself, what waits, or what would be rolled back.
func (p *Process) couldGiveBack(x api.Item) bool {
	_, ok := p.waits.furthest()
	return ok || isOfProcess(x) ||
		slices.ContainsFunc(p.log[p.above(x.Key):], func(d done) bool { return isOfProcess(d.Item) })
}

func itemOf(x api.Message) api.Item {
	return api.Item{Event: x.Event, Serial: x.Serial}
}

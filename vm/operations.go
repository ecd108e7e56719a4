package vm

import (
	"riffle/api"
	"riffle/order"
)

// operations has what an instruction does, by its operation: it is handed the instruction's N, of whatever meaning that is.
func operations() [api.OpEnd + 1]func(r *run, n int64) {
	return [...]func(r *run, n int64){
		api.OpPush:  (*run).push,
		api.OpLoad:  (*run).load,
		api.OpStore: (*run).store,
		api.OpTime:  (*run).time,
		api.OpData:  (*run).data,
		api.OpSelf:  (*run).self,
		api.OpRand:  (*run).rand,
		api.OpAdd:   (*run).add,
		api.OpSub:   (*run).sub,
		api.OpMul:   (*run).mul,
		api.OpLess:  (*run).less,
		api.OpSame:  (*run).same,
		api.OpJump:  (*run).jump,
		api.OpZero:  (*run).zero,
		api.OpSend:  (*run).send,
		api.OpTell:  (*run).tell,
		api.OpEnd:   (*run).end,
	}
}

func (r *run) load(n int64)  { r.push(r.step.State.Vars[n]) }
func (r *run) store(n int64) { r.step.State.Vars[n] = r.take() }
func (r *run) time(int64)    { r.push(r.event.Time) }
func (r *run) data(int64)    { r.push(r.event.Data) }
func (r *run) self(int64)    { r.push(int64(r.machine.self)) }

// rand draws a number also where the stack has no room for it.
func (r *run) rand(int64) {
	r.push(Chance(r.machine.seed, r.step.State.Drawn))
	r.step.State.Drawn++
}

func (r *run) add(int64) {
	a, b := r.takeTwo()
	r.push(a + b)
}

func (r *run) sub(int64) {
	a, b := r.takeTwo()
	r.push(a - b)
}

func (r *run) mul(int64) {
	a, b := r.takeTwo()
	r.push(a * b)
}

func (r *run) less(int64) {
	a, b := r.takeTwo()
	r.pushTruth(a < b)
}

func (r *run) same(int64) {
	a, b := r.takeTwo()
	r.pushTruth(a == b)
}

func (r *run) jump(n int64) { r.next = int(n) }

func (r *run) zero(n int64) {
	if r.take() == 0 {
		r.jump(n)
	}
}

func (r *run) end(int64) { r.next = len(r.code) }

// send sends nothing that may not be: nothing beyond MaxTime, nor of a Seq beyond MaxSeq.
func (r *run) send(kind int64) {
	to := r.take()
	delay := min(max(r.take(), 1), api.MaxDelay)
	data := r.take()
	e := api.Event{
		Key:  api.Key{Time: r.event.Time + delay, Origin: r.machine.self, Seq: r.step.State.Sent},
		To:   r.machine.process(to),
		Kind: int(kind),
		Data: data,
	}
	if len(r.step.Sends) == api.MaxSends || !order.May(e, r.machine.procs) {
		return
	}
	r.step.Sends = append(r.step.Sends, e)
	r.step.State.Sent++
}

func (r *run) tell(int64) {
	value := r.take()
	told := len(r.step.Tells)
	if told == api.MaxTells {
		return
	}
	r.step.Tells = append(r.step.Tells, api.Record{Key: r.event.Key, Proc: r.machine.self, Nth: told, Value: value})
}

package process_test

import (
	"testing"

	"riffle/api"
	"riffle/vm"
)

// P14.2: Commit

func TestCommitOfNone(t *testing.T) {
	for name, p := range none() {
		if x, l, err := p.Commit(); x != (api.Item{}) || l != nil || err != api.ErrNil {
			t.Errorf("%s: %+v, %+v, %v", name, x, l, err)
		}
	}
}

func TestCommitOfAnEmptyLog(t *testing.T) {
	mustNotCommit(t, mustMake(t, folder(), 1, 1), api.ErrNone)
	mustNotCommit(t, mustMake(t, folder(), 3, 1), api.ErrNone)
	p := behind(t, 2, 1)
	settle(t, p, 1)
	mustNotCommit(t, p, api.ErrNone)
	p = behind(t, 2, 3)
	settle(t, p, 3)
	mustNotCommit(t, p, api.ErrNone)
	p = behind(t, 2, 1)
	mustTake(t, p, anti(firsts(1)[0]), antis(pair(10, 0, 1, fold(1), 1)...)...)
	mustNotCommit(t, p, api.ErrNone)
}

func TestCommitsOneByOne(t *testing.T) {
	for _, every := range everies() {
		p, l := row(t, every)
		for i := range 12 {
			mustHave(t, p, l[i:], nil)
			mustHaveState(t, p.Base(), int64(2*i), 0, fold(upTo(i)...), 0)
			mustCommit(t, p, l[i], fold(upTo(i+1)...))
			mustHaveState(t, p.State(), 24, 0, fold(upTo(12)...), 0)
		}
		mustHave(t, p, nil, nil)
		mustHaveState(t, p.Base(), 24, 0, fold(upTo(12)...), 0)
		mustNotCommit(t, p, api.ErrNone)
	}
}

func TestCommitsBetweenRuns(t *testing.T) {
	for _, every := range everies() {
		p := mustMake(t, folder(), 1, every)
		all := firsts(1, 3, 0)
		for i := range 3 {
			goOn(t, p, 1)
			mustHave(t, p, all[i:i+1], all[i+1:])
			mustCommit(t, p, all[i], fold(upTo(i+1)...))
			mustHave(t, p, nil, all[i+1:])
			mustHaveState(t, p.State(), int64(2*i+2), 0, fold(upTo(i+1)...), 0)
			mustHaveState(t, p.Base(), int64(2*i+2), 0, fold(upTo(i+1)...), 0)
		}
	}
}

// Whatever runs come behind commits, and however many stand in the log: what stands there comes of the base.
func TestCommitsAndRunsInTurn(t *testing.T) {
	for _, every := range everies() {
		for logged := 1; logged < 8; logged++ {
			m := folder()
			m.First = nil
			p := mustMake(t, m, 1, every)
			var l []api.Message
			for i := range 40 {
				x := message(event(int64(i), 2, int64(i), foldsAlone, int64(i+1)), int64(i))
				l = append(l, x)
				mustTakeAll(t, p, x)
				mustRun(t, p)
				if i < logged {
					continue
				}
				mustCommit(t, p, l[i-logged], fold(upTo(i-logged+1)...))
				mustHave(t, p, l[i-logged+1:], nil)
				mustHaveState(t, p.Base(), 0, 0, fold(upTo(i-logged+1)...), 0)
				// any of them may be rolled back
				for back := i - logged + 1; back <= i; back++ {
					c := p.Copy()
					mustTake(t, c, anti(l[back]))
					mustHaveState(t, c.State(), 0, 0, fold(upTo(back)...), 0)
				}
			}
		}
	}
}

// What is told is what was told last: not what was rolled back.
func TestCommitBehindARollback(t *testing.T) {
	for _, every := range everies() {
		p := behind(t, every, 3)
		x := message(event(15, 2, 0, foldsAlone, 9), 1)
		p.Take(x)
		mustCommit(t, p, firsts(1)[0], fold(1))
		mustNotCommit(t, p, api.ErrNone)
		goOn(t, p, 3)
		mustCommit(t, p, x, fold(1, 9))
		mustCommit(t, p, firsts(3)[0], fold(1, 9, 2))
		mustCommit(t, p, firsts(0)[0], fold(1, 9, 2, 3))
		mustHaveState(t, p.Base(), 6, 0, fold(1, 9, 2, 3), 0)
	}
}

func TestCommitOfAllThatMayBeTold(t *testing.T) {
	var code []api.Instr
	for i := range int64(api.MaxTells + 1) {
		code = append(code, op(api.OpPush, 10*i), op(api.OpTell))
	}
	m := api.Model{Procs: []api.Proc{proc(nil, code, nil)}, First: []api.Event{first(0, 2, 1, 0, 0), first(1, 2, 1, 1, 0), first(2, 2, 1, 0, 0)}}
	p := mustMake(t, m, 1, 2)
	goOn(t, p, 3)
	mustCommit(t, p, message(m.First[0], 0), 0, 10, 20, 30)
	mustCommit(t, p, message(m.First[1], 1))
	mustCommit(t, p, message(m.First[2], 2), 0, 10, 20, 30)
}

// Numbers by chance are in the base.
func TestCommitOfNumbersByChance(t *testing.T) {
	for _, every := range everies() {
		m := folder()
		m.First = nil
		p := mustMake(t, m, 1, every)
		for i := range int64(9) {
			mustTakeAll(t, p, message(event(10*i, 2, i, draws, 0), i))
		}
		goOn(t, p, 9)
		for i := range int64(9) {
			mustHaveState(t, p.Base(), i, i, start, chanceAhead(int(i)))
			mustCommit(t, p, message(event(10*i, 2, i, draws, 0), i))
			mustHaveState(t, p.Base(), i+1, i+1, start, vm.Chance(99, i))
		}
	}
}

// Of unlike serials one key may be committed twice.
func TestCommitOfOneKeyTwice(t *testing.T) {
	p := mustMake(t, folder(), 1, 2)
	x, y := message(event(5, 2, 0, foldsAlone, 1), 4), message(event(5, 2, 0, foldsAlone, 2), 3)
	mustTakeAll(t, p, x)
	goOn(t, p, 1)
	mustTakeAll(t, p, y)
	mustHave(t, p, []api.Message{x}, append([]api.Message{y}, firsts(1, 3, 0)...))
	c := p.Copy()
	mustCommit(t, c, x, fold(1))
	mustNotTake(t, c, message(x.Event, 5), api.ErrTime)
	mustRun(t, c)
	mustCommit(t, c, y, fold(1, 2))
	goOn(t, p, 1)
	mustHave(t, p, []api.Message{x, y}, firsts(1, 3, 0))
	mustCommit(t, p, x, fold(1))
	mustNotTake(t, p, message(x.Event, 5), api.ErrTime)
	mustCommit(t, p, y, fold(1, 2))
	mustBeSame(t, p, c, true)
}

func TestCommitAnswersTheCallersOwn(t *testing.T) {
	p, l := row(t, 3)
	c := p.Copy()
	for i := range 12 {
		_, told, _ := p.Commit()
		was, d := look(p), p.Copy()
		clear(told[:cap(told)])
		_ = append(told[:0], api.Record{Value: 4}, api.Record{Value: 5})
		mustLook(t, p, was)
		mustBeSame(t, p, d, true)
		mustCommit(t, c, l[i], fold(upTo(i+1)...)) // a copy has its own
	}
	mustBeSame(t, p, c, true)
}

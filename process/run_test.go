package process_test

import (
	"slices"
	"testing"

	"riffle/api"
	"riffle/vm"
)

// P14.2: Run

func TestRunOfNone(t *testing.T) {
	for name, p := range none() {
		if l, err := p.Run(); l != nil || err != api.ErrNil {
			t.Errorf("%s: %+v, %v", name, l, err)
		}
	}
}

func TestRunWhereNothingWaits(t *testing.T) {
	p := mustMake(t, folder(), 3, 1)
	mustNotRun(t, p, api.ErrNone)
	p = behind(t, 2, 3)
	mustNotRun(t, p, api.ErrNone)
	settle(t, p, 3)
	mustNotRun(t, p, api.ErrNone)
	x := message(event(40, 2, 0, foldsAlone, 4), 0)
	mustTakeAll(t, p, x)
	mustRun(t, p)
	mustNotRun(t, p, api.ErrNone)
	mustTake(t, p, anti(x))
	mustNotRun(t, p, api.ErrNone)
	mustTakeAll(t, p, anti(x))
	mustNotRun(t, p, api.ErrNone)
}

func TestRunsOneAfterAnother(t *testing.T) {
	for _, every := range everies() {
		p := mustMake(t, folder(), 1, every)
		mustRun(t, p, pair(10, 0, 1, fold(1), 1)...)
		mustHave(t, p, firsts(1), firsts(3, 0))
		mustHaveState(t, p.State(), 2, 0, fold(1), 0)
		mustRun(t, p, pair(20, 2, 2, fold(1, 2), 3)...)
		mustHave(t, p, firsts(1, 3), firsts(0))
		mustHaveState(t, p.State(), 4, 0, fold(1, 2), 0)
		mustRun(t, p, pair(30, 4, 3, fold(1, 2, 3), 5)...)
		mustHave(t, p, firsts(1, 3, 0), nil)
		mustHaveState(t, p.State(), 6, 0, fold(1, 2, 3), 0)
		mustHaveState(t, p.Base(), 0, 0, start, 0)
	}
}

// What waits is done by its times, then its origins, then its Seqs, then its serials.
func TestRunsOfOneTime(t *testing.T) {
	l := []api.Message{
		message(event(4, 3, 9, foldsAlone, 1), 9),
		message(event(5, 0, 8, foldsAlone, 2), 8),
		message(event(5, 1, 7, foldsAlone, 3), 0),
		message(event(5, 2, 3, foldsAlone, 4), 5),
		message(event(5, 2, 6, foldsAlone, 5), 2),
		message(event(5, 2, 6, foldsAlone, 6), 4),
		message(event(5, 2, 6, foldsAlone, 7), 30),
		message(event(5, 2, 10, foldsAlone, 8), 1),
		message(event(5, api.Outside, 0, foldsAlone, 9), 0),
		message(event(6, 0, 7, foldsAlone, 10), 7),
	}
	for _, order := range [][]int{{0, 1, 2, 3, 4, 5, 6, 7, 8, 9}, {9, 8, 7, 6, 5, 4, 3, 2, 1, 0}, {5, 2, 8, 0, 6, 9, 4, 1, 7, 3}} {
		p := mustMake(t, folder(), 1, 3)
		for _, i := range order {
			mustTake(t, p, l[i])
		}
		var data []int64
		for i, x := range l {
			mustHave(t, p, l[:i], slices.Concat(l[i:], firsts(1, 3, 0)))
			mustRun(t, p)
			data = append(data, x.Data)
			mustHaveState(t, p.State(), 0, 0, fold(data...), 0)
		}
	}
}

func TestRunOfANumberByChance(t *testing.T) {
	p := mustMake(t, folder(), 1, 2)
	for i := range int64(3) {
		mustTakeAll(t, p, message(event(i, 2, i, draws, 0), i))
	}
	for i := range int64(3) {
		n := vm.Chance(99, i)
		mustRun(t, p, message(sent(i+5, i, 1, 1, n), i+1))
		mustHaveState(t, p.State(), i+1, i+1, start, n)
	}
	mustRun(t, p, pair(10, 3, 1, fold(1), 4)...)
}

func TestRunOfAKindThatTheProgramDoesNotHave(t *testing.T) {
	p := mustMake(t, folder(), 1, 1)
	x := message(event(3, 2, 0, ofNoKind, 9), 1)
	mustTakeAll(t, p, x)
	mustRun(t, p)
	mustHave(t, p, []api.Message{x}, firsts(1, 3, 0))
	mustHaveState(t, p.State(), 0, 0, start, 0)
	mustCommit(t, p, x)
}

func TestRunOfAllThatMayBeSent(t *testing.T) {
	var code []api.Instr
	for i := range int64(api.MaxSends + 1) {
		code = append(code, sends(0, i, 9-i, 1+i)...)
	}
	m := api.Model{Procs: []api.Proc{proc(nil, code), idle()}, First: []api.Event{first(0, 1, 1, 0, 0), first(1, 2, 1, 0, 0)}}
	p := mustMake(t, m, 1, 1)
	for i := range int64(2) {
		n := api.MaxSends * i
		mustRun(t, p,
			message(sent(10+i, n, 1, 0, 0), n+1), message(sent(9+i, n+1, 2, 0, 1), n+2),
			message(sent(8+i, n+2, 1, 0, 2), n+3), message(sent(7+i, n+3, 2, 0, 3), n+4))
	}
}

func TestRunAtTheEndOfTime(t *testing.T) {
	p := mustMake(t, folder(), 1, 1)
	goOn(t, p, 3)
	x, y := message(event(api.MaxTime-5, 2, 0, foldsAndSends, 4), 1), message(event(api.MaxTime, 2, 1, foldsAndSends, 5), 2)
	mustTakeAll(t, p, y, x)
	mustRun(t, p, message(sent(api.MaxTime-2, 6, 3, 0, 4), 7)) // the other one would be beyond MaxTime
	mustRun(t, p)
	mustHaveState(t, p.State(), 7, 0, fold(1, 2, 3, 4, 5), 0)
}

// Serials are of what is ever sent: Seqs go back, they do not.
func TestSerialsDoNotGoBack(t *testing.T) {
	for _, every := range everies() {
		p := behind(t, every, 3)
		serial := int64(7)
		for i := range int64(20) {
			x := message(event(12, 2, i, foldsAlone, 0), i)
			undone := slices.Concat(pair(20, 2, 2, fold(1, 2), serial-4), pair(30, 4, 3, fold(1, 2, 3), serial-2))
			mustTake(t, p, x, antis(undone...)...)
			mustTake(t, p, anti(x))
			mustRun(t, p, pair(20, 2, 2, fold(1, 2), serial)...)
			mustRun(t, p, pair(30, 4, 3, fold(1, 2, 3), serial+2)...)
			serial += 4
		}
		settle(t, p, 3)
		x := message(event(50, 2, 50, foldsAndSends, 6), 50)
		mustTakeAll(t, p, x)
		mustRun(t, p, pair(50, 6, 6, fold(1, 2, 3, 6), serial)...)
	}
}

// A refused call gives no serials.
func TestSerialsOfRefusals(t *testing.T) {
	p := behind(t, 1, 3)
	mustNotRun(t, p, api.ErrNone)
	mustNotTake(t, p, firsts(1)[0], api.ErrTwice)
	x := message(event(40, 2, 0, foldsAndSends, 4), 0)
	mustTakeAll(t, p, x)
	mustRun(t, p, pair(40, 6, 4, fold(1, 2, 3, 4), 7)...)
}

// As many as there is room for may wait, and may be in the log.
func TestRunsOfAFullRoom(t *testing.T) {
	p := mustMake(t, folder(), 1, 5)
	var l []api.Message
	var data []int64
	for i := range int64(api.MaxEvents - 3) {
		x := message(event(100+i, 2, i, foldsAlone, i), i)
		mustTakeAll(t, p, x)
		l, data = append(l, x), append(data, i)
	}
	mustHave(t, p, nil, slices.Concat(firsts(1, 3, 0), l))
	goOn(t, p, 3)
	for range l {
		mustRun(t, p)
	}
	mustHave(t, p, slices.Concat(firsts(1, 3, 0), l), nil)
	mustHaveState(t, p.State(), 6, 0, fold(slices.Concat([]int64{1, 2, 3}, data)...), 0)
}

func TestRunAnswersTheCallersOwn(t *testing.T) {
	p := mustMake(t, folder(), 1, 1)
	l, _ := p.Run()
	was, c := look(p), p.Copy()
	clear(l[:cap(l)])
	_ = append(l[:0], message(event(1, 1, 1, 1, 1), 1))
	mustLook(t, p, was)
	mustBeSame(t, p, c, true)
	mustTake(t, p, message(event(5, 2, 0, foldsAlone, 0), 1), antis(pair(10, 0, 1, fold(1), 1)...)...)
}

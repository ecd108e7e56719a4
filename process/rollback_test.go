package process_test

import (
	"slices"
	"testing"

	"riffle/api"
	"riffle/process"
	"riffle/vm"
)

// P14.2: Take of an event that comes late, or not

// row is the folder in whose log stand twelve events, at 100, 110 .. 210, of data 1 to 12, each of which sent two; and its first events are not.
func row(t *testing.T, every int) (*process.Process, []api.Message) {
	t.Helper()
	m := folder()
	m.First = nil
	p := mustMake(t, m, 1, every)
	var l []api.Message
	for i := range int64(12) {
		x := message(event(100+10*i, 2, i, foldsAndSends, i+1), i+1)
		mustTakeAll(t, p, x)
		l = append(l, x)
	}
	for i := range 12 {
		mustRun(t, p, rowSent(i)...)
	}
	return p, l
}

func upTo(n int) []int64 {
	var l []int64
	for i := range n {
		l = append(l, int64(i+1))
	}
	return l
}

// rowSent is what the i-th one of the row sent.
func rowSent(i int) []api.Message {
	n := int64(i)
	return pair(100+10*n, 2*n, n+1, fold(upTo(i+1)...), 2*n+1)
}

// rowAntis are the antis of what was sent from the i-th one of the row on.
func rowAntis(i int) []api.Message {
	var l []api.Message
	for ; i < 12; i++ {
		l = append(l, antis(rowSent(i)...)...)
	}
	return l
}

func TestAnEventAheadOfTheLogsIthOne(t *testing.T) {
	for _, every := range slices.Concat(everies(), []int{5, 11, 12, 13}) {
		for i := range 12 {
			p, l := row(t, every)
			x := message(event(int64(95+10*i), 3, 7, foldsAlone, 50), 8)
			mustTake(t, p, x, rowAntis(i)...)
			mustHave(t, p, l[:i], slices.Concat([]api.Message{x}, l[i:]))
			mustHaveState(t, p.State(), int64(2*i), 0, fold(upTo(i)...), 0)
			mustHaveState(t, p.Base(), 0, 0, start, 0)
			mustRun(t, p)
			data := append(upTo(i), 50)
			mustHaveState(t, p.State(), int64(2*i), 0, fold(data...), 0)
			for j := i; j < 12; j++ {
				data = append(data, int64(j+1))
				mustRun(t, p, pair(l[j].Time, int64(2*j), l[j].Data, fold(data...), int64(25+2*(j-i)))...)
			}
			mustHave(t, p, slices.Concat(l[:i], []api.Message{x}, l[i:]), nil)
			mustHaveState(t, p.State(), 24, 0, fold(data...), 0)
		}
	}
}

func TestAnEventAboveAllOfTheLog(t *testing.T) {
	for _, every := range everies() {
		p, l := row(t, every)
		x, y := message(event(211, 3, 0, foldsAlone, 50), 8), message(event(210, 2, 12, foldsAlone, 60), 77)
		mustTake(t, p, x)
		mustTake(t, p, y)
		mustHave(t, p, l, []api.Message{y, x})
		mustHaveState(t, p.State(), 24, 0, fold(upTo(12)...), 0)
	}
}

// Of keys of one time it is rolled back ahead of the first one that is greater.
func TestAnEventOfATimeInTheLog(t *testing.T) {
	for _, every := range everies() {
		for i := range 12 {
			for _, c := range []struct {
				origin int
				seq    int64
				from   int
			}{{0, 99, i}, {1, api.MaxSeq, i}, {2, int64(i) - 1, i}, {2, int64(i) + 1, i + 1}, {3, 0, i + 1}, {api.Outside, 0, i + 1}} {
				if c.seq < 0 {
					continue
				}
				p, l := row(t, every)
				x := message(event(l[i].Time, c.origin, c.seq, foldsAlone, 50), 88)
				mustTake(t, p, x, rowAntis(c.from)...)
				mustHave(t, p, l[:c.from], slices.Concat([]api.Message{x}, l[c.from:]))
				mustHaveState(t, p.State(), int64(2*c.from), 0, fold(upTo(c.from)...), 0)
			}
		}
	}
}

// At the key of one of them (of another serial): that one is not greater, and stays.
func TestAnEventAtAKeyInTheLog(t *testing.T) {
	for _, every := range everies() {
		for i := range 12 {
			for _, serial := range []int64{0, 20} {
				p, l := row(t, every)
				x := l[i]
				x.Serial, x.Kind, x.Data = serial, foldsAlone, 50
				mustTake(t, p, x, rowAntis(i+1)...)
				mustHave(t, p, l[:i+1], slices.Concat([]api.Message{x}, l[i+1:]))
				mustHaveState(t, p.State(), int64(2*i+2), 0, fold(upTo(i+1)...), 0)
				mustRun(t, p)
				mustHave(t, p, slices.Concat(l[:i+1], []api.Message{x}), l[i+1:])
				mustHaveState(t, p.State(), int64(2*i+2), 0, fold(append(upTo(i+1), 50)...), 0)

				// its anti undoes it alone, and that of the other one both
				c := p.Copy()
				mustTake(t, c, anti(x))
				mustHave(t, c, l[:i+1], l[i+1:])
				mustTake(t, p, anti(l[i]), antis(rowSent(i)...)...)
				mustHave(t, p, l[:i], slices.Concat([]api.Message{x}, l[i+1:]))
				mustHaveState(t, p.State(), int64(2*i), 0, fold(upTo(i)...), 0)
			}
		}
	}
}

func TestAnEventAtAKeyThatWaits(t *testing.T) {
	p := behind(t, 2, 1)
	l := firsts(3)
	x, y := l[0], l[0]
	x.Serial, y.Serial = 1000, 2
	mustTakeAll(t, p, x, y)
	mustHave(t, p, firsts(1), slices.Concat([]api.Message{y, l[0], x}, firsts(0)))
}

// What is rolled back again and again comes to the same state, whichever states were kept between.
func TestRollbacksOneBehindAnother(t *testing.T) {
	for _, every := range slices.Concat(everies(), []int{5, 6, 7}) {
		p, l := row(t, every)
		late := message(event(0, 3, 0, foldsAlone, 0), 0)
		for n, i := range []int{11, 3, 8, 7, 0, 5, 1, 11, 2, 10, 9, 4, 6} {
			late.Time, late.Seq, late.Serial = int64(95+10*i), int64(n), int64(n)
			if _, err := p.Take(late); err != api.OK {
				t.Fatal(err)
			}
			mustHave(t, p, l[:i], slices.Concat([]api.Message{late}, l[i:]))
			mustHaveState(t, p.State(), int64(2*i), 0, fold(upTo(i)...), 0)
			mustTake(t, p, anti(late))
			for j := i; j < 12; j++ {
				goOn(t, p, 1)
				mustHaveState(t, p.State(), int64(2*j+2), 0, fold(upTo(j+1)...), 0)
			}
		}
	}
}

// Rolled back twice at a stretch, what was sent is undone once.
func TestRollbacksWithoutRunsBetween(t *testing.T) {
	for _, every := range everies() {
		p, l := row(t, every)
		x, y, z := message(event(175, 3, 2, foldsAlone, 0), 2), message(event(135, 3, 1, foldsAlone, 0), 1), message(event(155, 3, 0, foldsAlone, 0), 0)
		mustTake(t, p, x, rowAntis(8)...)
		mustTake(t, p, y, rowAntis(4)[:8]...)
		mustTake(t, p, z)
		mustHave(t, p, l[:4], slices.Concat([]api.Message{y}, l[4:6], []api.Message{z}, l[6:8], []api.Message{x}, l[8:]))
		mustHaveState(t, p.State(), 8, 0, fold(upTo(4)...), 0)
	}
}

// Numbers by chance, and how many were sent, go back with the state.
func TestRollbackOfNumbersByChance(t *testing.T) {
	for _, every := range everies() {
		m := folder()
		m.First = nil
		for n := range 7 {
			p := mustMake(t, m, 1, every)
			for i := range int64(7) {
				mustTakeAll(t, p, message(event(10*i, 2, i, draws, 0), i))
			}
			goOn(t, p, 7)
			var want []api.Message
			for i := int64(n); i < 7; i++ {
				want = append(want, anti(message(sent(10*i+5, i, 1, 1, vm.Chance(99, i)), i+1)))
			}
			mustTake(t, p, anti(message(event(0, 2, 0, 0, 0), int64(n))), want...)
			mustHaveState(t, p.State(), int64(n), int64(n), start, chanceAhead(n))
			if n < 6 {
				mustRun(t, p, message(sent(int64(10*n+15), int64(n), 1, 1, vm.Chance(99, int64(n))), 8))
			}
		}
	}
}

// chanceAhead is the folder's second variable behind so many draws.
func chanceAhead(n int) int64 {
	if n == 0 {
		return 0
	}
	return vm.Chance(99, int64(n-1))
}

// It is rolled back to the base, and no farther.
func TestRollbackBehindCommits(t *testing.T) {
	for _, every := range everies() {
		for commits := 1; commits < 12; commits++ {
			for i := commits; i <= 12; i++ {
				p, l := row(t, every)
				settle(t, p, commits)
				x := message(event(int64(95+10*i), 3, 7, foldsAlone, 50), 8)
				mustTake(t, p, x, rowAntis(i)...)
				mustHave(t, p, l[commits:i], slices.Concat([]api.Message{x}, l[i:]))
				mustHaveState(t, p.State(), int64(2*i), 0, fold(upTo(i)...), 0)
				mustHaveState(t, p.Base(), int64(2*commits), 0, fold(upTo(commits)...), 0)
			}
		}
	}
}

// What sent nothing is undone by no antis.
func TestRollbackOfWhatSentNothing(t *testing.T) {
	p := mustMake(t, folder(), 1, 2)
	var l []api.Message
	for i := range int64(6) {
		l = append(l, message(event(i+1, 2, i, foldsAlone, i+1), i))
	}
	mustTakeAll(t, p, l...)
	goOn(t, p, 7)
	mustTake(t, p, message(event(4, 1, 0, foldsAlone, 9), 2), antis(pair(10, 0, 1, fold(1, 2, 3, 4, 5, 6, 1), 1)...)...)
	goOn(t, p, 4)
	mustTake(t, p, message(event(4, 1, 1, foldsAlone, 9), 3))
	mustHaveState(t, p.State(), 0, 0, fold(1, 2, 3, 9), 0)
}

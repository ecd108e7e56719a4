package process_test

import (
	"slices"
	"testing"

	"riffle/api"
	"riffle/process"
)

// P14.2: Take of antis, of what they undo, and of what goes back

func mustKeep(t *testing.T, p *process.Process, want int) {
	t.Helper()
	if n := p.Antis(); n != want {
		t.Fatalf("%d antis are kept, want %d", n, want)
	}
}

func TestAnAntiWhoseEventWaits(t *testing.T) {
	for i, place := range []int{1, 3, 0} {
		for runs := 0; runs <= i; runs++ {
			p := behind(t, 2, runs)
			was := look(p)
			mustTake(t, p, anti(firsts(place)[0]))
			all := firsts(1, 3, 0)
			mustHave(t, p, all[:runs], slices.Concat(all[runs:i], all[i+1:]))
			mustKeep(t, p, 0)
			if got := look(p).state; !slices.Equal(got.Vars, was.state.Vars) || got.Sent != was.state.Sent {
				t.Errorf("the state is %+v, it was %+v", got, was.state)
			}
			mustTake(t, p, anti(firsts(place)[0])) // it has come now, and is there no more
			mustKeep(t, p, 1)
		}
	}
}

// The first, a middle, and the last one.
func TestAnAntiWhoseEventIsInTheLog(t *testing.T) {
	for _, every := range slices.Concat(everies(), []int{5, 12}) {
		for i := range 12 {
			p, l := row(t, every)
			mustTake(t, p, anti(l[i]), rowAntis(i)...)
			mustHave(t, p, l[:i], l[i+1:])
			mustHaveState(t, p.State(), int64(2*i), 0, fold(upTo(i)...), 0)
			mustKeep(t, p, 0)
			data := upTo(i)
			for j := i + 1; j < 12; j++ {
				data = append(data, int64(j+1))
				mustRun(t, p, pair(l[j].Time, int64(2*j-2), l[j].Data, fold(data...), int64(25+2*(j-i-1)))...)
			}
			mustHave(t, p, slices.Concat(l[:i], l[i+1:]), nil)
			mustHaveState(t, p.State(), 22, 0, fold(data...), 0)
		}
	}
}

func TestAntisOfAllInTheLog(t *testing.T) {
	for _, every := range everies() {
		p, l := row(t, every)
		for i := 11; i >= 0; i-- {
			mustTake(t, p, anti(l[i]), antis(rowSent(i)...)...)
			mustHave(t, p, l[:i], nil)
		}
		mustHaveState(t, p.State(), 0, 0, start, 0)

		p, l = row(t, every)
		mustTake(t, p, anti(l[0]), rowAntis(0)...)
		for i := 1; i < 12; i++ {
			mustHave(t, p, nil, l[i:])
			mustTake(t, p, anti(l[i]))
		}
		mustHave(t, p, nil, nil)
		mustKeep(t, p, 0)
	}
}

// An anti undoes the event of its origin and serial, whatever else it tells.
func TestAnAntiGoesByOriginAndSerial(t *testing.T) {
	for _, runs := range []int{0, 1, 3} {
		for _, change := range []func(x *api.Message){
			func(x *api.Message) { x.Time = 0 }, func(x *api.Message) { x.Time = 99 }, func(x *api.Message) { x.Seq = 77 },
			func(x *api.Message) { x.Kind = draws }, func(x *api.Message) { x.Data = -1 },
		} {
			p, want := behind(t, 2, runs), behind(t, 2, runs)
			x := firsts(1)[0]
			change(&x)
			out, _ := want.Take(anti(firsts(1)[0]))
			mustTake(t, p, anti(x), out...)
			mustBeSame(t, p, want, true)
			mustKeep(t, p, 0)
		}
		for _, change := range []func(x *api.Message){
			func(x *api.Message) { x.Origin = 1 }, func(x *api.Message) { x.Origin = api.Outside },
			func(x *api.Message) { x.Serial = 2 }, func(x *api.Message) { x.Serial = 1001 },
		} {
			p := behind(t, 2, runs)
			was := look(p)
			x := firsts(1)[0]
			change(&x)
			mustTake(t, p, anti(x))
			was.antis = 1
			mustLook(t, p, was)
		}
	}
}

func TestAntisThatComeAhead(t *testing.T) {
	p := behind(t, 1, 2)
	x, y := message(event(5, 2, 0, foldsAlone, 9), 1), message(event(15, 3, 0, foldsAlone, 9), 1)
	z := message(event(15, 2, 1, foldsAlone, 9), 2)
	was := look(p)
	for i, m := range []api.Message{x, y, z} {
		mustTake(t, p, anti(m))
		was.antis = i + 1
		mustLook(t, p, was)
	}
	for i, m := range []api.Message{y, x, z} {
		mustTake(t, p, m)
		was.antis = 2 - i
		mustLook(t, p, was)
	}
	mustBeSame(t, p, behind(t, 1, 2), true)
	mustTake(t, p, y, antis(pair(20, 2, 2, fold(1, 2), 3)...)...) // its anti is there no more
	mustHave(t, p, firsts(1), slices.Concat([]api.Message{y}, firsts(3, 0)))
}

func TestAnAntiThatComesTwice(t *testing.T) {
	p := behind(t, 2, 1)
	x := message(event(15, 2, 0, foldsAlone, 9), 1)
	mustTakeAll(t, p, anti(x), anti(x))
	mustKeep(t, p, 1)
	other := x
	other.Time, other.Data = 99, 5
	mustTakeAll(t, p, anti(other))
	mustKeep(t, p, 1)
	mustTake(t, p, x)
	mustKeep(t, p, 0)
	mustHave(t, p, firsts(1), firsts(3, 0))
	mustTake(t, p, x)
	mustHave(t, p, firsts(1), slices.Concat([]api.Message{x}, firsts(3, 0)))
}

// Which key an anti tells is not asked: nor whether it is above what is committed.
func TestAnAntiOfWhatIsCommitted(t *testing.T) {
	p := behind(t, 2, 3)
	settle(t, p, 2)
	mustTake(t, p, anti(firsts(1)[0]))
	mustTake(t, p, anti(firsts(3)[0]))
	mustKeep(t, p, 2)
	mustHave(t, p, firsts(0), nil)
	mustHaveState(t, p.State(), 6, 0, fold(1, 2, 3), 0)
	mustTake(t, p, anti(firsts(0)[0]), antis(pair(30, 4, 3, fold(1, 2, 3), 5)...)...)
	mustKeep(t, p, 2)
	mustHave(t, p, nil, nil)
	mustHaveState(t, p.State(), 4, 0, fold(1, 2), 0)
}

// As many antis are kept as come: they take up no room.
func TestVeryManyAntis(t *testing.T) {
	p := mustMake(t, folder(), 1, 1)
	for i := range int64(3 * api.MaxEvents) {
		mustTakeAll(t, p, anti(message(event(50, 2, i, foldsAlone, 0), i)))
	}
	mustKeep(t, p, 3*api.MaxEvents)
	mustHave(t, p, nil, firsts(1, 3, 0))
	for i := range int64(3 * api.MaxEvents) {
		mustTakeAll(t, p, message(event(50, 2, i, foldsAlone, 0), i))
	}
	mustKeep(t, p, 0)
	mustHave(t, p, nil, firsts(1, 3, 0))
}

// A full room keeps antis, and what they undo needs none.
func TestAntisInAFullRoom(t *testing.T) {
	p := full(t, 2, 0, api.Outside)
	x, y := message(event(50, 2, 0, foldsAlone, 0), 1), message(event(50, api.Outside, api.MaxSeq, foldsAlone, 0), 5000)
	mustTakeAll(t, p, anti(x), anti(y))
	mustKeep(t, p, 2)
	mustTakeAll(t, p, x, y)
	mustKeep(t, p, 0)
	mustNotTake(t, p, y, api.ErrFull)
	mustTakeAll(t, p, anti(message(event(0, api.Outside, 0, 0, 0), 9)))
	mustTakeAll(t, p, y)
}

// What goes back is sent again, whether it was undone since then or not.
func TestWhatGoesBack(t *testing.T) {
	for _, every := range everies() {
		p := behind(t, every, 3)
		sent := slices.Concat(pair(10, 0, 1, fold(1), 1), pair(20, 2, 2, fold(1, 2), 3), pair(30, 4, 3, fold(1, 2, 3), 5))
		mustGoBack := func(l []api.Message) {
			t.Helper()
			for _, x := range l {
				mustStay(t, p, func() { mustTake(t, p, back(x), x) })
			}
		}
		mustGoBack(sent)
		mustTake(t, p, message(event(15, 2, 0, foldsAlone, 9), 1), antis(sent[2:]...)...)
		mustGoBack(sent)
		settle(t, p, 1)
		mustGoBack(sent)
		goOn(t, p, 3)
		mustGoBack(sent)
		mustGoBack(slices.Concat(pair(20, 2, 2, fold(1, 9, 2), 7), pair(30, 4, 3, fold(1, 9, 2, 3), 9)))
	}
}

// It is not asked what was sent, nor where it stands.
func TestWhatGoesBackIsSentAsItIs(t *testing.T) {
	p := behind(t, 2, 3)
	settle(t, p, 1)
	for _, x := range []api.Message{
		message(sent(0, 0, 1, 0, 0), 0), message(sent(api.MaxTime, api.MaxSeq, 3, api.MaxKinds-1, -1), 1<<62),
		message(sent(13, 1, 3, 0, 77), 2), message(sent(5, 0, 2, 0, 0), 1),
	} {
		mustStay(t, p, func() { mustTake(t, p, back(x), x) })
	}
	// also what it sent itself, and has back: it waits there again when it comes
	x := message(sent(25, 9, 1, foldsAlone, 4), 99)
	mustTake(t, p, x, antis(pair(30, 4, 3, fold(1, 2, 3), 5)...)...)
	mustStay(t, p, func() { mustTake(t, p, back(x), x) })
	mustTake(t, p, anti(x))
	mustTake(t, p, anti(x))
	mustStay(t, p, func() { mustTake(t, p, back(x), x) }) // its anti stays
	mustTake(t, p, x)
	mustKeep(t, p, 0)
}

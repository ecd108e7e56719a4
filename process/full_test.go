package process_test

import (
	"slices"
	"testing"

	"riffle/api"
	"riffle/process"
)

// P14.2: Take where there is no room

// fills has so many messages of origins in turn, one each at times 100, 101 and so on; Seqs and serials rise from 0 on.
func fills(n int, origins ...int) []api.Message {
	var l []api.Message
	for i := range int64(n) {
		l = append(l, message(event(100+i, origins[int(i)%len(origins)], i, foldsAlone, i), i))
	}
	return l
}

// full is a process whose room is full with messages of origins in turn, of which so many are done.
func full(t *testing.T, every, runs int, origins ...int) *process.Process {
	t.Helper()
	m := folder()
	m.First = nil
	p := mustMake(t, m, 1, every)
	mustTakeAll(t, p, fills(api.MaxEvents, origins...)...)
	goOn(t, p, runs)
	if p.Room() != 0 {
		t.Fatalf("there is room for %d", p.Room())
	}
	return p
}

func TestRoomToTheLast(t *testing.T) {
	m := folder()
	m.First = nil
	p := mustMake(t, m, 1, 1)
	l := fills(api.MaxEvents, 2, api.Outside)
	for i, x := range l {
		if p.Room() != api.MaxEvents-i {
			t.Fatalf("there is room for %d, where %d wait", p.Room(), i)
		}
		mustTake(t, p, x)
		if i%3 == 0 {
			goOn(t, p, 1)
		}
	}
	mustHave(t, p, l[:342], l[342:])
}

// Which one goes back, of what waits of processes.
func TestTheGreatestGoesBack(t *testing.T) {
	x := message(event(150, 3, 7, foldsAlone, -1), 5000)
	for _, c := range []struct {
		origins []int
		back    int
	}{{[]int{2}, 1023}, {[]int{2, api.Outside}, 1022}, {[]int{2, 0, api.Outside, 0}, 1020}, {[]int{1}, 1023}, {[]int{api.MaxProcs, api.Outside}, 1022}} {
		for runs := range 50 {
			p, l := full(t, 4, runs, c.origins...), fills(api.MaxEvents, c.origins...)
			mustTake(t, p, x, back(l[c.back]))
			want := slices.Delete(slices.Clone(l), c.back, c.back+1)
			want = slices.Insert(want, 51, x) // behind that of 150, whose origin may be 3 at most
			if l[50].Origin > 3 {
				want[50], want[51] = want[51], want[50]
			}
			mustHave(t, p, want[:runs], want[runs:])
		}
	}
}

func TestTheEventItselfGoesBack(t *testing.T) {
	for _, origins := range [][]int{{2}, {api.Outside}, {0}, {api.Outside, 2}, {0, 3, api.Outside}} {
		for _, runs := range []int{0, 1, 1000, api.MaxEvents} {
			for _, origin := range []int{1, 2, 3, api.MaxProcs} {
				p := full(t, 3, runs, origins...)
				x := message(event(2000, origin, 5000, foldsAlone, -1), 5000)
				mustStay(t, p, func() { mustTake(t, p, x, back(x)) })
			}
		}
	}
}

// An event that is the only one of a process goes back, however small it is.
func TestTheOnlyOneOfAProcessGoesBack(t *testing.T) {
	for _, time := range []int64{0, 99, 500, 2000} {
		p := full(t, 3, 0, api.Outside)
		x := message(event(time, 2, 5000, foldsAlone, -1), 5000)
		mustStay(t, p, func() { mustTake(t, p, x, back(x)) })
	}
	// and that which waits already, where the event comes from outside
	p, l := full(t, 3, 0, api.Outside), fills(api.MaxEvents, api.Outside)
	x := message(event(100, 2, 5000, foldsAlone, -1), 5000)
	mustTake(t, p, anti(l[1023]))
	mustTake(t, p, x)
	mustTake(t, p, l[1023], back(x))
	mustHave(t, p, nil, l)
	mustNotTake(t, p, message(event(100, api.Outside, 5000, 0, 0), 5000), api.ErrFull)
}

// Of one key, the one of the greater serial.
func TestTheGreatestOfOneKeyGoesBack(t *testing.T) {
	top := fills(api.MaxEvents, 2)[1023]
	for _, serial := range []int64{0, 5, 1024, 9000} {
		p := full(t, 3, 0, 2)
		x := top
		x.Serial, x.Data = 4000, 1 // of the same key
		mustTake(t, p, anti(fills(1, 2)[0]))
		mustTake(t, p, x)
		mustTake(t, p, anti(top))
		mustTake(t, p, fills(1, 2)[0])
		l := slices.Concat(fills(1023, 2), []api.Message{x})
		mustHave(t, p, nil, l)
		y := top
		y.Serial, y.Data = serial, 2
		if serial < 1023 { // such names wait
			mustNotTake(t, p, y, api.ErrTwice)
			continue
		}
		if serial > 4000 {
			mustStay(t, p, func() { mustTake(t, p, y, back(y)) })
			continue
		}
		mustTake(t, p, y, back(x))
		mustHave(t, p, nil, slices.Concat(fills(1023, 2), []api.Message{y}))
	}
}

// What is rolled back waits, and may go back; the log's others may not.
func TestWhatIsRolledBackGoesBack(t *testing.T) {
	for _, every := range everies() {
		for _, at := range []int{0, 1, 500, 1022, 1023} {
			p, l := full(t, every, api.MaxEvents, 2), fills(api.MaxEvents, 2)
			x := message(event(l[at].Time, 1, 9, foldsAlone, -1), 9)
			mustTake(t, p, x, back(l[1023]))
			mustHave(t, p, l[:at], slices.Concat([]api.Message{x}, l[at:1023]))
		}
		p, l := full(t, every, 1000, 2, api.Outside), fills(api.MaxEvents, 2, api.Outside)
		x := message(event(1000, 3, 9, foldsAlone, -1), 9)
		mustTake(t, p, x, back(l[1022]))
		mustHave(t, p, l[:901], slices.Concat([]api.Message{x}, l[901:1022], l[1023:]))
	}
}

// Antis go out ahead of the one that goes back; it is rolled back also where the event itself goes back then.
func TestAntisAndTheOneThatGoesBack(t *testing.T) {
	for _, every := range everies() {
		for _, origin := range []int{2, api.Outside} {
			m := folder()
			m.First = nil
			p := mustMake(t, m, 1, every)
			l := fills(api.MaxEvents, origin)
			for i := range l {
				l[i].Kind = foldsAndSends
			}
			mustTakeAll(t, p, l...)
			goOn(t, p, 4)
			out := antis(slices.Concat(pair(102, 4, 2, fold(0, 1, 2), 5), pair(103, 6, 3, fold(0, 1, 2, 3), 7))...)
			x := message(event(102, 1, 9, foldsAlone, -1), 9)
			if origin == 2 {
				mustTake(t, p, x, slices.Concat(out, []api.Message{back(l[1023])})...)
				mustHave(t, p, l[:2], slices.Concat([]api.Message{x}, l[2:1023]))
			} else {
				mustTake(t, p, x, slices.Concat(out, []api.Message{back(x)})...)
				mustHave(t, p, l[:2], l[2:])
			}
			mustHaveState(t, p.State(), 4, 0, fold(0, 1), 0)
		}
	}
}

func TestFullOfWhatComesFromOutside(t *testing.T) {
	for _, every := range everies() {
		for _, origins := range [][]int{{api.Outside}, {0}, {0, api.Outside}} {
			for _, runs := range []int{0, 1, 512, 1023, 1024} {
				p := full(t, every, runs, origins...)
				for _, time := range []int64{0, 100, 612, 5000} {
					for _, origin := range []int{0, api.Outside} {
						mustNotTake(t, p, message(event(time, origin, 5000, foldsAlone, -1), 5000), api.ErrFull)
					}
				}
			}
		}
	}
}

// What stands in the log does not wait: but what would be rolled back would.
func TestFullWhereTheLogHasSomeOfProcesses(t *testing.T) {
	m := folder()
	m.First = nil
	for _, every := range everies() {
		p := mustMake(t, m, 1, every)
		l := fills(api.MaxEvents, api.Outside)
		l[20].Origin, l[30].Origin = 2, 5
		mustTakeAll(t, p, l...)
		goOn(t, p, 40)
		for _, time := range []int64{131, 139, 140, 5000} {
			mustNotTake(t, p, message(event(time, api.Outside, 5000, foldsAlone, -1), 5000), api.ErrFull)
		}
		mustNotTake(t, p, message(event(130, api.Outside, 5000, foldsAlone, -1), 5000), api.ErrFull) // above it
		x := message(event(130, 0, 5000, foldsAlone, -1), 5000)
		c := p.Copy()
		mustTake(t, c, x, back(l[30]))
		mustHave(t, c, l[:30], slices.Concat([]api.Message{x}, l[31:]))
		x.Time = 110
		mustTake(t, p, x, back(l[30]))
		mustHave(t, p, l[:10], slices.Concat([]api.Message{x}, l[10:30], l[31:]))
		y := message(event(5000, api.Outside, 5000, foldsAlone, -1), 5000)
		mustTake(t, p, y, back(l[20])) // that one waits now
		mustNotTake(t, p, message(event(0, api.Outside, 5001, foldsAlone, -1), 5001), api.ErrFull)
	}
}

// Errors ahead of it are told in a full room, too.
func TestOtherErrorsInAFullRoom(t *testing.T) {
	p := full(t, 2, 5, api.Outside)
	x := message(event(100, api.Outside, 5000, foldsAlone, -1), 3)
	mustNotTake(t, p, x, api.ErrTwice)
	settle(t, p, 5)
	mustTakeAll(t, p, fills(api.MaxEvents+5, api.Outside)[api.MaxEvents:]...)
	mustNotTake(t, p, x, api.ErrTime)
	x.Serial = -1
	mustNotTake(t, p, x, api.ErrArg)
	x = message(event(99, 2, 5000, foldsAlone, -1), 3)
	mustNotTake(t, p, x, api.ErrTime)
	x.Time = 104
	mustNotTake(t, p, x, api.ErrTime)
	x.Time = 105
	mustStay(t, p, func() { mustTake(t, p, x, back(x)) })
	y := message(sent(3, 3, 2, 0, 0), 1)
	mustStay(t, p, func() { mustTake(t, p, back(y), y) })
}

func TestRoomBehindACommit(t *testing.T) {
	for _, every := range everies() {
		p, l := full(t, every, 2, api.Outside), fills(api.MaxEvents, api.Outside)
		x := fills(api.MaxEvents+1, api.Outside)[api.MaxEvents]
		mustNotTake(t, p, x, api.ErrFull)
		settle(t, p, 1)
		mustTake(t, p, x)
		mustHave(t, p, l[1:2], slices.Concat(l[2:], []api.Message{x}))
		y := message(event(700, api.Outside, 9000, foldsAlone, -1), 9000)
		mustNotTake(t, p, y, api.ErrFull)
		mustTake(t, p, anti(x))
		mustTake(t, p, y)
		settle(t, p, 1)
		if p.Room() != 1 {
			t.Fatalf("there is room for %d", p.Room())
		}
	}
}

// What goes back comes again, and goes back again, as long as there is no room.
func TestWhatGoesBackAndComesAgain(t *testing.T) {
	p, l := full(t, 3, 10, 2), fills(api.MaxEvents, 2)
	x := message(event(110, 3, 0, foldsAlone, -1), 0)
	mustTake(t, p, x, back(l[1023]))
	for range 5 {
		mustStay(t, p, func() { mustTake(t, p, l[1023], back(l[1023])) })
	}
	settle(t, p, 1)
	mustTake(t, p, l[1023])
	mustHave(t, p, l[1:10], slices.Concat([]api.Message{l[10], x}, l[11:]))
}

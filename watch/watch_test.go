package watch_test

import (
	"math"
	"math/rand"
	"slices"
	"testing"

	"riffle/api"
	"riffle/watch"
)

const (
	most  = math.MaxInt64
	least = math.MinInt64
	last  = math.MaxUint32
)

// numbered is a breakpoint of a watch.
type numbered struct {
	id uint32
	b  api.Break
}

// every is a breakpoint that matches all events.
var every = api.Break{Kind: -1}

func event(time int64, to, kind int) api.Event {
	return api.Event{Key: api.Key{Time: time, Origin: 3, Seq: 4}, To: to, Kind: kind, Data: 5}
}

// row has breakpoints of the numbers 0, 3, 6, .., no two alike.
func row(n int) []numbered {
	var l []numbered
	for i := range n {
		l = append(l, numbered{uint32(3 * i), api.Break{Proc: i % 5, Kind: i%4 - 1, Time: int64(1000 - i)}})
	}
	return l
}

func shuffled(l []numbered, seed int64) []numbered {
	l = slices.Clone(l)
	rand.New(rand.NewSource(seed)).Shuffle(len(l), func(i, j int) { l[i], l[j] = l[j], l[i] })
	return l
}

func of(t *testing.T, l ...numbered) *watch.Watch {
	t.Helper()
	w := watch.New()
	if w == nil {
		t.Fatal("New is nil")
	}
	for _, x := range l {
		mustSet(t, w, x.id, x.b)
	}
	return w
}

func mustSet(t *testing.T, w *watch.Watch, id uint32, b api.Break) {
	t.Helper()
	if err := w.Set(id, b); err != api.OK {
		t.Fatalf("Set(%d, %+v): %v", id, b, err)
	}
}

func mustClear(t *testing.T, w *watch.Watch, id uint32) {
	t.Helper()
	if err := w.Clear(id); err != api.OK {
		t.Fatalf("Clear(%d): %v", id, err)
	}
}

func mustNotSet(t *testing.T, w *watch.Watch, id uint32, b api.Break, want api.Errno) {
	t.Helper()
	was := list(w)
	if err := w.Set(id, b); err != want {
		t.Errorf("Set(%d, %+v): %v, want %v", id, b, err, want)
	}
	mustHave(t, w, was...)
}

func mustNotClear(t *testing.T, w *watch.Watch, id uint32, want api.Errno) {
	t.Helper()
	was := list(w)
	if err := w.Clear(id); err != want {
		t.Errorf("Clear(%d): %v, want %v", id, err, want)
	}
	mustHave(t, w, was...)
}

func mustMatch(t *testing.T, w *watch.Watch, e api.Event, want uint32) {
	t.Helper()
	if id, ok := w.Match(e); id != want || !ok {
		t.Errorf("Match of %+v: %d, %v, want %d", e, id, ok, want)
	}
}

func mustNotMatch(t *testing.T, w *watch.Watch, e api.Event) {
	t.Helper()
	if id, ok := w.Match(e); id != 0 || ok {
		t.Errorf("Match of %+v: %d, %v, want none", e, id, ok)
	}
}

func list(w *watch.Watch) []numbered {
	var l []numbered
	for id, b := range w.All() {
		l = append(l, numbered{id, b})
	}
	return l
}

// mustHave asks for just these breakpoints, that are told by rising numbers, in each way in which a watch tells them.
func mustHave(t *testing.T, w *watch.Watch, want ...numbered) {
	t.Helper()
	if got := list(w); !slices.Equal(got, want) {
		t.Fatalf("All: %+v, want %+v", got, want)
	}
	if n := w.Len(); n != len(want) {
		t.Fatalf("Len: %d, want %d", n, len(want))
	}
	for _, x := range want {
		if b, ok := w.Get(x.id); b != x.b || !ok {
			t.Fatalf("Get(%d): %+v, %v, want %+v", x.id, b, ok, x.b)
		}
		for _, id := range []uint32{x.id - 1, x.id + 1} {
			if !slices.ContainsFunc(want, func(o numbered) bool { return o.id == id }) {
				mustNotHave(t, w, id)
			}
		}
	}
}

func mustNotHave(t *testing.T, w *watch.Watch, id uint32) {
	t.Helper()
	if b, ok := w.Get(id); b != (api.Break{}) || ok {
		t.Fatalf("Get(%d): %+v, %v, want none", id, b, ok)
	}
}

// The example

func TestExample(t *testing.T) {
	seven := numbered{7, api.Break{Proc: 2, Kind: -1, Time: 10}}
	three := numbered{3, api.Break{Proc: 0, Kind: 1, Time: 0}}
	for _, w := range []*watch.Watch{of(t, seven, three), of(t, three, seven)} {
		mustMatch(t, w, event(12, 2, 1), 3)
		mustMatch(t, w, event(12, 2, 0), 7)
		mustMatch(t, w, event(10, 2, 0), 7)
		mustNotMatch(t, w, event(9, 2, 0))
		mustNotMatch(t, w, event(12, 1, 0))
	}
}

// P11.1

func TestWhatMayBe(t *testing.T) {
	procs := map[int]bool{least: false, -2: false, -1: false, 0: true, 1: true, 8: true, api.MaxProcs: true, api.MaxProcs + 1: false, 1 << 32: false, most: false}
	kinds := map[int]bool{least: false, -3: false, -2: false, -1: true, 0: true, 1: true, api.MaxKinds - 1: true, api.MaxKinds: false, 1 << 32: false, most: false}
	times := map[int64]bool{least: false, -2: false, -1: false, 0: true, 1: true, api.MaxTime - 1: true, api.MaxTime: true, api.MaxTime + 1: false, 1 << 62: false, most: false}
	for proc, mayProc := range procs {
		for kind, mayKind := range kinds {
			for time, mayTime := range times {
				b := api.Break{Proc: proc, Kind: kind, Time: time}
				want := mayProc && mayKind && mayTime
				if got := watch.May(b); got != want {
					t.Errorf("May(%+v): %v, want %v", b, got, want)
				}
			}
		}
	}
}

func TestWhatMatches(t *testing.T) {
	for _, c := range []struct {
		name string
		b    api.Break
		e    api.Event
		want bool
	}{
		{"any of all", every, event(0, 1, 0), true},
		{"any of all, the last event", every, event(api.MaxTime, api.MaxProcs, api.MaxKinds-1), true},
		{"its process", api.Break{Proc: 2, Kind: -1}, event(5, 2, 3), true},
		{"a process below", api.Break{Proc: 2, Kind: -1}, event(5, 1, 3), false},
		{"a process above", api.Break{Proc: 2, Kind: -1}, event(5, 3, 3), false},
		{"the first process", api.Break{Proc: 1, Kind: -1}, event(5, 1, 3), true},
		{"the last process", api.Break{Proc: api.MaxProcs, Kind: -1}, event(5, api.MaxProcs, 3), true},
		{"its kind", api.Break{Kind: 3}, event(5, 2, 3), true},
		{"a kind below", api.Break{Kind: 3}, event(5, 2, 2), false},
		{"a kind above", api.Break{Kind: 3}, event(5, 2, 4), false},
		{"the kind 0 is not any", api.Break{Kind: 0}, event(5, 2, 1), false},
		{"the kind 0", api.Break{Kind: 0}, event(5, 2, 0), true},
		{"the last kind", api.Break{Kind: api.MaxKinds - 1}, event(5, 2, api.MaxKinds-1), true},
		{"a time below", api.Break{Kind: -1, Time: 10}, event(9, 1, 0), false},
		{"its time", api.Break{Kind: -1, Time: 10}, event(10, 1, 0), true},
		{"a time above", api.Break{Kind: -1, Time: 10}, event(11, 1, 0), true},
		{"a time far above", api.Break{Kind: -1, Time: 10}, event(api.MaxTime, 1, 0), true},
		{"the greatest time", api.Break{Kind: -1, Time: api.MaxTime}, event(api.MaxTime, 1, 0), true},
		{"just below the greatest time", api.Break{Kind: -1, Time: api.MaxTime}, event(api.MaxTime-1, 1, 0), false},
		{"all of it", api.Break{Proc: 4, Kind: 5, Time: 6}, event(6, 4, 5), true},
		{"all but the process", api.Break{Proc: 4, Kind: 5, Time: 6}, event(6, 5, 5), false},
		{"all but the kind", api.Break{Proc: 4, Kind: 5, Time: 6}, event(6, 4, 4), false},
		{"all but the time", api.Break{Proc: 4, Kind: 5, Time: 6}, event(5, 4, 5), false},
	} {
		if got := watch.Matches(c.b, c.e); got != c.want {
			t.Errorf("%s: Matches(%+v, %+v): %v, want %v", c.name, c.b, c.e, got, c.want)
		}
	}
}

func TestMatchesAsksForNothingElse(t *testing.T) {
	b := api.Break{Proc: 2, Kind: 3, Time: 10}
	for _, origin := range []int{least, 0, 1, 2, api.Outside, most} {
		for _, n := range []int64{least, -1, 0, 9, most} {
			e := api.Event{Key: api.Key{Time: 10, Origin: origin, Seq: n}, To: 2, Kind: 3, Data: n}
			if !watch.Matches(b, e) {
				t.Errorf("Matches(%+v, %+v): no", b, e)
			}
			e.To = 1
			if watch.Matches(b, e) {
				t.Errorf("Matches(%+v, %+v): yes", b, e)
			}
		}
	}
}

func TestMatchesOfEachKindOfBreakpoint(t *testing.T) {
	for proc := range api.MaxProcs + 1 {
		for kind := -1; kind < api.MaxKinds; kind++ {
			b := api.Break{Proc: proc, Kind: kind, Time: 7}
			for to := 1; to <= api.MaxProcs; to++ {
				for k := range api.MaxKinds {
					here := (proc == 0 || proc == to) && (kind == -1 || kind == k)
					for time := int64(6); time <= 8; time++ {
						if got, want := watch.Matches(b, event(time, to, k)), here && time >= 7; got != want {
							t.Fatalf("Matches(%+v, %+v): %v, want %v", b, event(time, to, k), got, want)
						}
					}
				}
			}
		}
	}
}

package pool_test

import (
	"math"
	"slices"
	"testing"

	"riffle/api"
	"riffle/pool"
)

func message(time int64, origin int, seq int64, colour int) api.Message {
	e := api.Event{Key: api.Key{Time: time, Origin: origin, Seq: seq}, To: 1, Kind: 2, Data: 3}
	return api.Message{Event: e, Serial: seq + 1, Colour: colour}
}

// row has messages whose keys and colours have nothing to do with their places.
func row(n int) []api.Message {
	var l []api.Message
	for i := range n {
		m := message(int64(i*i*7%97), 1+i%5, int64(i), i*5%9-2)
		m.Anti, m.Back = i%3 == 1, i%3 == 2
		l = append(l, m)
	}
	return l
}

// parted has messages that part from m in one field alone, each in another one.
func parted(m api.Message) []api.Message {
	l := make([]api.Message, 10)
	for i := range l {
		l[i] = m
	}
	l[0].Time++
	l[1].Origin++
	l[2].Seq++
	l[3].To++
	l[4].Kind++
	l[5].Data++
	l[6].Serial++
	l[7].Anti = !m.Anti
	l[8].Back = !m.Back
	l[9].Colour++
	return l
}

// extremes has messages of which no event may be.
func extremes() []api.Message {
	least := message(math.MinInt64, math.MinInt, math.MinInt64, math.MinInt)
	most := message(math.MaxInt64, math.MaxInt, math.MaxInt64, math.MaxInt)
	least.To, least.Kind, least.Data, least.Serial = math.MinInt, math.MinInt, math.MinInt64, math.MinInt64
	most.To, most.Kind, most.Data, most.Serial = math.MaxInt, math.MaxInt, math.MaxInt64, math.MaxInt64
	most.Anti, most.Back = true, true
	return []api.Message{most, {}, least, message(-1, -1, -1, -1), most}
}

func without(l []api.Message, i int) []api.Message {
	return slices.Delete(slices.Clone(l), i, i+1)
}

func of(t *testing.T, l ...api.Message) *pool.Pool {
	t.Helper()
	p := pool.New()
	if p == nil {
		t.Fatal("New is nil")
	}
	for i, m := range l {
		mustPut(t, p, m, i)
	}
	return p
}

func mustPut(t *testing.T, p *pool.Pool, m api.Message, want int) {
	t.Helper()
	if n, err := p.Put(m); n != want || err != api.OK {
		t.Fatalf("Put of %+v: %d, %v, want %d", m, n, err, want)
	}
}

func mustNotPut(t *testing.T, p *pool.Pool, m api.Message, want api.Errno) {
	t.Helper()
	if n, err := p.Put(m); n != 0 || err != want {
		t.Fatalf("Put of %+v: %d, %v, want %v", m, n, err, want)
	}
}

func mustTake(t *testing.T, p *pool.Pool, i int, want api.Message) {
	t.Helper()
	if m, err := p.Take(i); m != want || err != api.OK {
		t.Fatalf("Take of %d: %+v, %v, want %+v", i, m, err, want)
	}
}

func mustBeAt(t *testing.T, p *pool.Pool, i int, want api.Message) {
	t.Helper()
	if m, err := p.At(i); m != want || err != api.OK {
		t.Fatalf("At %d: %+v, %v, want %+v", i, m, err, want)
	}
}

// mustHaveNoPlace asks for a message by At and by Take.
func mustHaveNoPlace(t *testing.T, p *pool.Pool, i int, want api.Errno) {
	t.Helper()
	if m, err := p.At(i); m != (api.Message{}) || err != want {
		t.Fatalf("At %d: %+v, %v, want %v", i, m, err, want)
	}
	if m, err := p.Take(i); m != (api.Message{}) || err != want {
		t.Fatalf("Take of %d: %+v, %v, want %v", i, m, err, want)
	}
}

func mustLeast(t *testing.T, p *pool.Pool, want api.Key, there bool) {
	t.Helper()
	if k, ok := p.Least(); k != want || ok != there {
		t.Fatalf("Least: %v, %v, want %v, %v", k, ok, want, there)
	}
}

func mustOlder(t *testing.T, p *pool.Pool, colour, want int) {
	t.Helper()
	if n := p.Older(colour); n != want {
		t.Fatalf("Older than %d: %d, want %d", colour, n, want)
	}
}

// ahead is the order of keys as the words tell it: times, then origins, then Seqs.
func ahead(a, b api.Key) bool {
	switch {
	case a.Time != b.Time:
		return a.Time < b.Time
	case a.Origin != b.Origin:
		return a.Origin < b.Origin
	}
	return a.Seq < b.Seq
}

// mustHave asks for just these messages, by all calls that change nothing.
func mustHave(t *testing.T, p *pool.Pool, l ...api.Message) {
	t.Helper()
	if n := p.Len(); n != len(l) {
		t.Fatalf("Len: %d, want %d", n, len(l))
	}
	if all := slices.Collect(p.All()); !slices.Equal(all, l) {
		t.Fatalf("All: %+v, want %+v", all, l)
	}
	var least api.Key
	older := map[int]int{-1: 0, 0: 0, 1: 0, 4: 0}
	for i, m := range l {
		mustBeAt(t, p, i, m)
		if i == 0 || ahead(m.Key, least) {
			least = m.Key
		}
		for colour := range older {
			if m.Colour < colour {
				older[colour]++
			}
		}
	}
	mustLeast(t, p, least, len(l) > 0)
	for colour, n := range older {
		mustOlder(t, p, colour, n)
	}
}

func TestExample(t *testing.T) {
	a, b, c := message(3, 1, 0, 0), message(1, 2, 0, 0), message(2, 1, 1, 0)
	p := of(t, a, b, c)
	mustTake(t, p, 1, b)
	if all := slices.Collect(p.All()); !slices.Equal(all, []api.Message{a, c}) {
		t.Errorf("%+v", all)
	}
}

// P6.1

func TestNewIsWithoutMessages(t *testing.T) {
	mustHave(t, of(t))
	a, b := of(t), of(t)
	mustPut(t, a, message(1, 1, 1, 1), 0)
	mustHave(t, b)
	mustPut(t, b, message(2, 1, 1, 1), 0)
	mustHave(t, a, message(1, 1, 1, 1))
}

func TestZeroPoolIsANewOne(t *testing.T) {
	m := message(1, 1, 1, 1)
	var p, q pool.Pool
	mustHave(t, &p)
	for _, i := range []int{math.MinInt, -1, 0, 1, math.MaxInt} {
		mustHaveNoPlace(t, &p, i, api.ErrNone)
	}
	if !p.Same(pool.New()) || !pool.New().Same(&p) || !p.Same(&q) {
		t.Error("a zero pool is not as a new one")
	}
	c := q.Copy()
	if c == nil {
		t.Fatal("a zero pool's copy is nil")
	}
	mustPut(t, c, m, 0)
	mustHave(t, &q)
	mustPut(t, &p, m, 0)
	mustHave(t, &p, m)
	mustHave(t, &q)
	if !p.Same(c) || p.Same(&q) {
		t.Error("a zero pool does not go on as a new one")
	}
	mustTake(t, &p, 0, m)
	mustHave(t, &p)
	mustPut(t, &p, m, 1)
}

func TestNilPool(t *testing.T) {
	var p *pool.Pool
	mustNotPut(t, p, message(1, 1, 1, 1), api.ErrNil)
	mustNotPut(t, p, api.Message{}, api.ErrNil)
	for _, i := range []int{math.MinInt, -1, 0, 1, api.MaxPool, math.MaxInt} {
		mustHaveNoPlace(t, p, i, api.ErrNil)
	}
	mustHave(t, p)
	mustOlder(t, p, math.MinInt, 0)
	mustOlder(t, p, math.MaxInt, 0)
	if p.Copy() != nil {
		t.Error("a copy of nil")
	}
}

func TestPutNumbersFrom0On(t *testing.T) {
	l := row(700)
	p := of(t)
	for i, m := range l {
		mustPut(t, p, m, i)
		if n := p.Len(); n != i+1 {
			t.Fatalf("Len: %d, want %d", n, i+1)
		}
		mustBeAt(t, p, i, m)
	}
	mustHave(t, p, l...)
}

func TestPutOneByOne(t *testing.T) {
	l := row(300)
	p := of(t)
	for i, m := range l {
		mustHave(t, p, l[:i]...)
		mustPut(t, p, m, i)
	}
	mustHave(t, p, l...)
}

func TestNumbersGoOnBehindATake(t *testing.T) {
	l := row(5)
	p := of(t, l[:3]...)
	mustTake(t, p, 2, l[2])
	mustPut(t, p, l[3], 3)
	mustTake(t, p, 0, l[0])
	mustTake(t, p, 0, l[1])
	mustTake(t, p, 0, l[3])
	mustHave(t, p)
	mustPut(t, p, l[4], 4)
	mustHaveNoPlace(t, p, 1, api.ErrNone)
	mustPut(t, p, l[0], 5)
	mustHave(t, p, l[4], l[0])
}

func TestPutOfMessagesThatAreAlike(t *testing.T) {
	m := message(5, 1, 8, 3)
	p := of(t, m, m, m)
	mustHave(t, p, m, m, m)
	mustTake(t, p, 1, m)
	mustHave(t, p, m, m)
	mustPut(t, p, m, 3)
	mustHave(t, p, m, m, m)
}

func TestPutOfMessagesThatPartInOneField(t *testing.T) {
	m := message(5, 1, 8, 3)
	l := append(parted(m), m)
	p := of(t, l...)
	mustHave(t, p, l...)
	for i := len(l) - 1; i >= 0; i-- {
		mustTake(t, p, i, l[i])
		mustHave(t, p, l[:i]...)
	}
}

func TestPutOfMessagesOfAnyKind(t *testing.T) {
	l := extremes()
	p := of(t, l...)
	mustHave(t, p, l...)
	for i, m := range l {
		mustTake(t, p, 0, m)
		mustHave(t, p, l[i+1:]...)
	}
}

func TestPutOfMaxPoolAndOneMore(t *testing.T) {
	l := row(api.MaxPool)
	p := of(t, l[:api.MaxPool-1]...)
	mustHave(t, p, l[:api.MaxPool-1]...)
	mustPut(t, p, l[api.MaxPool-1], api.MaxPool-1)
	mustHave(t, p, l...)
	more := message(-9, 1, 1, -9)
	for _, m := range []api.Message{more, l[0], {}, more} {
		mustNotPut(t, p, m, api.ErrFull)
	}
	mustHave(t, p, l...)
	mustHaveNoPlace(t, p, api.MaxPool, api.ErrNone)
	mustTake(t, p, 70000, l[70000])
	mustPut(t, p, more, api.MaxPool)
	mustNotPut(t, p, more, api.ErrFull)
	l = append(without(l, 70000), more)
	mustHave(t, p, l...)
	mustTake(t, p, 0, l[0])
	mustTake(t, p, api.MaxPool-2, more)
	mustPut(t, p, l[0], api.MaxPool+1)
	mustPut(t, p, l[5], api.MaxPool+2)
	mustNotPut(t, p, l[5], api.ErrFull)
	mustHave(t, p, append(slices.Clone(l[1:api.MaxPool-1]), l[0], l[5])...)
}

func TestLenIsWhatIsThere(t *testing.T) {
	l := row(3)
	p := of(t)
	for i, want := range []int{1, 2, 3} {
		mustPut(t, p, l[i], i)
		if n := p.Len(); n != want {
			t.Errorf("Len: %d, want %d", n, want)
		}
	}
	for want := 2; want >= 0; want-- {
		mustTake(t, p, 0, l[2-want])
		if n := p.Len(); n != want {
			t.Errorf("Len: %d, want %d", n, want)
		}
	}
	mustHaveNoPlace(t, p, 0, api.ErrNone)
	if n := p.Len(); n != 0 {
		t.Errorf("Len: %d, want 0", n)
	}
}

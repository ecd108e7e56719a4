package process_test

import (
	"slices"
	"testing"

	"riffle/api"
	"riffle/process"
)

// P14.3: Copy

func TestCopyOfNone(t *testing.T) {
	for name, p := range none() {
		if c := p.Copy(); c != nil {
			t.Errorf("%s: a copy is %+v", name, c)
		}
	}
}

func TestCopiesAreTheSame(t *testing.T) {
	for _, every := range everies() {
		p, l := row(t, every)
		mustTakeAll(t, p, anti(message(event(5, 3, 0, 0, 0), 1)))
		for i := 11; i > 3; i-- {
			c := p.Copy()
			if c == p {
				t.Fatal("a copy is the process itself")
			}
			d := c.Copy()
			mustLook(t, c, look(p))
			mustBeSame(t, p, c, true)
			mustBeSame(t, p, d, true)
			mustTake(t, p, anti(l[i]), antis(rowSent(i)...)...)
			mustBeSame(t, p, c, false)
			mustTake(t, c, anti(l[i]), antis(rowSent(i)...)...)
			mustBeSame(t, p, c, true)
			mustBeSame(t, d, c, false)
		}
	}
}

// acts each do something to the row, or to what it has become.
func acts() []func(p *process.Process) {
	take := func(x api.Message) func(p *process.Process) {
		return func(p *process.Process) { p.Take(x) }
	}
	return []func(p *process.Process){
		func(p *process.Process) { p.Run() },
		func(p *process.Process) { p.Commit() },
		take(message(event(145, 3, 1, foldsAndSends, 7), 1)),
		take(message(event(300, 3, 2, foldsAlone, 8), 2)),
		take(anti(message(event(120, 2, 2, 0, 0), 3))),
		take(anti(message(event(400, 3, 3, 0, 0), 3))),
		take(message(event(400, 3, 3, foldsAlone, 0), 3)),
		func(p *process.Process) { p.Run(); p.Run(); p.Run() },
	}
}

// Whatever is done to one of them, the other one does not notice.
func TestCopiesGoOnApart(t *testing.T) {
	for _, every := range everies() {
		for i, first := range acts() {
			for j, second := range acts() {
				p, _ := row(t, every)
				settle(t, p, 2)
				c := p.Copy()
				was := look(c)
				first(p)
				mustLook(t, c, was)
				is := look(p)
				second(c)
				mustLook(t, p, is)
				if i == j {
					mustBeSame(t, p, c, true)
				}
				second(p)
				second(p)
				first(c)

				want, _ := row(t, every)
				settle(t, want, 2)
				second(want)
				first(want)
				mustLook(t, c, look(want))
				mustBeSame(t, c, want, true)
			}
		}
	}
}

func TestCopiesOfCopies(t *testing.T) {
	for _, every := range everies() {
		p, l := row(t, every)
		var copies []*process.Process
		var sights []sight
		for i := range 12 {
			copies, sights = append(copies, p), append(sights, look(p))
			p = p.Copy()
			x := message(event(l[i].Time-5, 3, int64(i), foldsAlone, int64(i)), int64(i))
			if _, err := p.Take(x); err != api.OK {
				t.Fatal(err)
			}
			goOn(t, p, 12-i+1)
			if i%3 == 0 {
				settle(t, p, 1)
			}
		}
		for i, c := range copies {
			mustLook(t, c, sights[i])
			for j, d := range copies {
				mustBeSame(t, c, d, i == j)
			}
		}
		settle(t, copies[5], 5)
		for i, c := range copies {
			if i != 5 {
				mustLook(t, c, sights[i])
			}
		}
	}
}

// Did both keep the log in one memory, each would write over what the other one did.
func TestCopiesRunAndAreRolledBackApart(t *testing.T) {
	for _, every := range everies() {
		for i := range 12 {
			p, l := row(t, every)
			x := message(event(l[i].Time-5, 3, 0, foldsAlone, 50), 1)
			y := message(event(l[i].Time-5, 3, 0, foldsAlone, 60), 1)
			c := p.Copy()
			d := c.Copy()
			mustTake(t, p, x, rowAntis(i)...)
			mustTake(t, c, y, rowAntis(i)...)
			goOn(t, p, 1)
			goOn(t, c, 1)
			e := c.Copy()
			goOn(t, c, 12-i)
			goOn(t, p, 12-i)
			goOn(t, e, 12-i)
			mustHave(t, p, slices.Concat(l[:i], []api.Message{x}, l[i:]), nil)
			mustHave(t, c, slices.Concat(l[:i], []api.Message{y}, l[i:]), nil)
			mustHave(t, d, l, nil)
			mustBeSame(t, c, e, true)
			for k, q := range []*process.Process{p, c, d} {
				data := slices.Insert(upTo(12), i, int64(50+10*k))
				if k == 2 {
					data = upTo(12)
				}
				mustHaveState(t, q.State(), 24, 0, fold(data...), 0)
				for n := range data {
					_, told, _ := q.Commit()
					if len(told) != 1 || told[0].Value != fold(data[:n+1]...) {
						t.Fatalf("every %d: the %d-th tells %+v of %v", every, n, told, data)
					}
				}
			}
		}
	}
}

func TestCopiesOfAFullRoomGoOnApart(t *testing.T) {
	p := full(t, 2, 5, 2)
	c := p.Copy()
	was := look(p)
	x := message(event(103, 1, 0, foldsAlone, 0), 1)
	l, err := c.Take(x)
	mustLook(t, p, was)
	mustTake(t, p, x, l...)
	mustBeSame(t, p, c, err == api.OK)
}

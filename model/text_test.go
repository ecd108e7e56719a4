package model_test

import (
	"fmt"
	"math"
	"reflect"
	"slices"
	"strings"
	"testing"

	"riffle/api"
	"riffle/code"
	"riffle/model"
)

// textByWords is a model's text, as the document's words have it.
func textByWords(m api.Model) string {
	s := ""
	for _, p := range m.Procs {
		s += fmt.Sprint("proc ", p.Seed)
		for _, n := range p.Vars {
			s += fmt.Sprint(" ", n)
		}
		s += "\n" + code.Text(p.Program)
	}
	for _, e := range m.First {
		s += fmt.Sprintf("first %d %d %d %d\n", e.Time, e.To, e.Kind, e.Data)
	}
	return s
}

const exampleText = "proc 7\nvars 0\nkind\n  time\n  tell\nfirst 3 1 0 0\n"

const richText = `proc 72623859790382856 300 -2
vars 2
kind
  load 1
  push -5
  add
  store 1
  send 1
kind
proc -1
vars 0
kind
  time
  tell
proc -9223372036854775808 1 -1 0 -9223372036854775808 9223372036854775807 256 -256 10
vars 8
kind
first 258 3 7 -3
first 0 1 0 9223372036854775807
first 1099511627776 2 1 -9223372036854775808
first 258 3 7 -3
`

func mustRead(t *testing.T, s string, want api.Model) {
	t.Helper()
	if m, e := model.Read(s); e != api.OK || !model.Same(m, want) {
		t.Errorf("%q: %v, %v; want %v", s, m, e, want)
	}
}

func mustNotRead(t *testing.T, s string) {
	t.Helper()
	if m, e := model.Read(s); e != api.ErrModel || !reflect.DeepEqual(m, api.Model{}) {
		t.Errorf("%q: %v, %v; want nothing and %v", s, m, e, api.ErrModel)
	}
}

// mustBeNoOther asks whether a text is either none's, or that of the model which it is read as.
func mustBeNoOther(t *testing.T, s string) bool {
	t.Helper()
	m, e := model.Read(s)
	if e == api.OK {
		if !model.May(m) || model.Text(m) != s || textByWords(m) != s {
			t.Errorf("%q was read as %v, whose text is %q", s, m, model.Text(m))
		}
		return true
	}
	if e != api.ErrModel || !reflect.DeepEqual(m, api.Model{}) {
		t.Errorf("%q: %v, %v", s, m, e)
	}
	return false
}

// P9.2

func TestTextOfTheExample(t *testing.T) {
	if s := model.Text(example()); s != exampleText {
		t.Errorf("%q, want %q", s, exampleText)
	}
	mustRead(t, exampleText, example())
}

func TestTextOfManyParts(t *testing.T) {
	if s := model.Text(rich()); s != richText {
		t.Errorf("%q, want %q", s, richText)
	}
	mustRead(t, richText, rich())
}

func TestTextsThereAndBack(t *testing.T) {
	for name, m := range mayBe() {
		s := textByWords(m)
		if got := model.Text(m); got != s {
			t.Errorf("%s: %q, want %q", name, got, s)
		}
		mustRead(t, s, m)
	}
}

func TestNoTextOfWhatMayNotBe(t *testing.T) {
	for name, m := range mayNotBe() {
		if s := model.Text(m); s != "" {
			t.Errorf("%s: %q", name, s)
		}
	}
}

func TestTextsOfWhatMayNotBe(t *testing.T) {
	seen := 0
	for _, m := range mayNotBe() {
		programs := !slices.ContainsFunc(m.Procs, func(p api.Proc) bool { return !code.May(p.Program) })
		if s := textByWords(m); programs && s != model.Text(api.Model{Procs: m.Procs, First: renumbered(m.First)}) {
			mustNotRead(t, s)
			seen++
		}
	}
	if seen < 40 {
		t.Errorf("only %d were said", seen)
	}
}

// renumbered are first events with the origin and Seqs that they would be read with.
func renumbered(l []api.Event) []api.Event {
	l = slices.Clone(l)
	for place := range l {
		l[place].Origin, l[place].Seq = 0, int64(place)
	}
	return l
}

func TestTextsAreReadWithTheOriginAndSeqOfFirstEvents(t *testing.T) {
	m, e := model.Read(textByWords(ofIdle(3, api.MaxFirst)))
	mustHaveAllPlaces(t, m, e)
}

func TestTextsThatAreCut(t *testing.T) {
	for _, s := range []string{exampleText, richText} {
		for n := range s {
			if !strings.HasSuffix(s[:n], "\n") {
				mustNotRead(t, s[:n])
				continue
			}
			// Behind a whole line it may be another model's: with a first event less, surely.
			l := linesOf(s[:n])
			switch last := l[len(l)-1]; {
			case strings.HasPrefix(last, "proc"), strings.HasPrefix(last, "vars"):
				mustNotRead(t, s[:n])
			case strings.HasPrefix(last, "first"):
				mustBeReadAs(t, s[:n])
			default:
				mustBeNoOther(t, s[:n])
			}
		}
	}
	for n := 1; n < len(exampleText); n++ {
		mustNotRead(t, exampleText[n:])
	}
}

func mustBeReadAs(t *testing.T, s string) {
	t.Helper()
	if !mustBeNoOther(t, s) {
		t.Errorf("%q was not read", s)
	}
}

// linesOf are a text's lines, each with its end.
func linesOf(s string) []string {
	return slices.Collect(strings.Lines(s))
}

func TestTextsThatAreALineShortOrLong(t *testing.T) {
	l := linesOf(richText)
	for i, line := range l {
		short := strings.Join(slices.Delete(slices.Clone(l), i, i+1), "")
		long := strings.Join(slices.Insert(slices.Clone(l), i, line), "")
		word, _, _ := strings.Cut(strings.TrimSuffix(line, "\n"), " ")
		switch word {
		case "proc", "vars":
			mustNotRead(t, short)
			mustNotRead(t, long)
		case "kind":
			mustBeReadAs(t, long)
		case "first":
			mustBeReadAs(t, short)
			mustBeReadAs(t, long)
		}
		mustBeNoOther(t, short)
		mustBeNoOther(t, long)
	}
	for i := range len(l) + 1 {
		for _, line := range []string{"\n", " \n", "x\n", "end\n", "proc\n", "first\n", "vars 0\n", "proc 7\n", "First 3 1 0 0\n", "proc: 7\n", "firsts 3 1 0 0\n"} {
			mustNotRead(t, strings.Join(slices.Insert(slices.Clone(l), i, line), ""))
		}
	}
}

func TestTextsOfLinesInAnotherOrder(t *testing.T) {
	l := linesOf(richText)
	for i := range l {
		for j := range i {
			swapped := slices.Clone(l)
			swapped[i], swapped[j] = swapped[j], swapped[i]
			mustBeNoOther(t, strings.Join(swapped, ""))
			moved := slices.Insert(slices.Delete(slices.Clone(l), i, i+1), j, l[i])
			mustBeNoOther(t, strings.Join(moved, ""))
		}
	}
	for _, s := range []string{
		"first 3 1 0 0\nproc 7\nvars 0\nkind\n  time\n  tell\n",
		"proc 7\nvars 0\nkind\nfirst 3 1 0 0\nproc 7\nvars 0\nkind\n",
		"proc 7\nvars 0\nkind\nfirst 3 1 0 0\nproc 7\nvars 0\nkind\nfirst 3 1 0 0\n",
		"proc 7\nfirst 3 1 0 0\nvars 0\nkind\n  time\n  tell\n",
		"proc 7\nvars 0\nfirst 3 1 0 0\nkind\n  time\n  tell\n",
		"proc 7\nvars 0\nkind\n  time\nfirst 3 1 0 0\n  tell\n",
		"vars 0\nproc 7\nkind\n  time\n  tell\nfirst 3 1 0 0\n",
		"vars 0\nkind\n  time\n  tell\nproc 7\nfirst 3 1 0 0\n",
		"proc 7\nkind\nvars 0\n  time\n  tell\nfirst 3 1 0 0\n",
		"proc 7\n  time\nvars 0\nkind\n  tell\nfirst 3 1 0 0\n",
		"proc 7\nproc 7\nvars 0\nkind\nvars 0\nkind\n",
		"first 3 1 0 0\n", "first 3 1 0 0\nfirst 3 1 0 0\n", "proc 7\n", "proc 7\nfirst 3 1 0 0\n",
		"vars 0\nkind\n", "vars 0\nkind\nfirst 3 1 0 0\n", "kind\n", "  time\n",
	} {
		mustNotRead(t, s)
	}
}

func TestTextsWithSomethingMore(t *testing.T) {
	for _, s := range []string{exampleText, "proc 7 5\nvars 1\nkind\n  load 0\nproc 8\nvars 0\nkind\nfirst 3 1 0 0\nfirst 3 2 0 0\n"} {
		for n := range len(s) + 1 {
			for _, more := range []string{"\n", " ", "x", "\x00", "\r", "\t", "+", "_", ".", "\n\n", "  \n", "\xFF", "é", " 0", "0 "} {
				mustNotRead(t, s[:n]+more+s[n:])
			}
			mustBeNoOther(t, s[:n]+"-"+s[n:])
			mustBeNoOther(t, s[:n]+"0"+s[n:])
			mustBeNoOther(t, s[:n]+"9"+s[n:])
		}
	}
}

func TestTextsWithABlankOrAnEndLess(t *testing.T) {
	for i := range richText {
		if richText[i] == ' ' || richText[i] == '\n' {
			mustNotRead(t, richText[:i]+richText[i+1:])
		}
	}
	for _, s := range []string{"", "\n", " ", "\n\n", "proc", "proc 7", "x\n", " \n", "  \n"} {
		mustNotRead(t, s)
	}
}

func TestTextsWithNumbersMoreOrFewer(t *testing.T) {
	for vars := range api.MaxVars + 1 {
		for has := range 2 * api.MaxVars {
			s := "proc 7" + strings.Repeat(" 5", has) + fmt.Sprintf("\nvars %d\nkind\n", vars)
			if has == vars {
				mustRead(t, s, api.Model{Procs: []api.Proc{{Program: idle(vars), Vars: slices.Repeat([]int64{5}, vars), Seed: 7}}})
			} else {
				mustNotRead(t, s)
			}
		}
		mustNotRead(t, "proc"+fmt.Sprintf("\nvars %d\nkind\n", vars))
	}
	for has := range 2 * api.MaxVars {
		s := "proc 7\nvars 0\nkind\nfirst" + strings.Repeat(" 1", has) + "\n"
		if has == 4 {
			mustRead(t, s, api.Model{Procs: []api.Proc{{Program: idle(0), Seed: 7}}, First: []api.Event{first(0, 1, 1, 1, 1)}})
		} else {
			mustNotRead(t, s)
		}
	}
}

func wrongNumbers() []string {
	return []string{
		"", "-", "+", "+1", "+0", "-0", "00", "01", "-01", "-00", "007", "--1", "1-", "1.0", "1e3", "0x1", "0b1", "0o7", "1_0",
		"9223372036854775808", "-9223372036854775809", "18446744073709551616", "18446744073709551615", "18446744073709551617",
		strings.Repeat("9", 40), "0" + strings.Repeat("0", 40), strings.Repeat("0", 40) + "1", "١", "½", "nil", "Inf", "x",
	}
}

func TestTextsWithWrongNumbers(t *testing.T) {
	for _, digits := range wrongNumbers() {
		mustNotRead(t, "proc "+digits+"\nvars 0\nkind\n")
		mustNotRead(t, "proc 7 "+digits+" 1\nvars 2\nkind\n")
		mustNotRead(t, "proc 7 1 "+digits+"\nvars 2\nkind\n")
		mustNotRead(t, "proc 7\nvars "+digits+"\nkind\n")
		mustNotRead(t, "proc 7\nvars 0\nkind\n  push "+digits+"\n")
		for place := range 4 {
			numbers := []string{"1", "1", "1", "1"}
			numbers[place] = digits
			mustNotRead(t, "proc 7\nvars 0\nkind\nfirst "+strings.Join(numbers, " ")+"\n")
		}
	}
}

func TestTextsWithNumbersAtTheEdges(t *testing.T) {
	for _, n := range []int64{math.MinInt64, math.MinInt64 + 1, -10, -1, 0, 1, 9, 10, math.MaxInt64 - 1, math.MaxInt64} {
		m := api.Model{Procs: []api.Proc{{Program: idle(1), Vars: []int64{n}, Seed: n}}, First: []api.Event{first(0, 0, 1, 0, n)}}
		s := fmt.Sprintf("proc %d %d\nvars 1\nkind\nfirst 0 1 0 %d\n", n, n, n)
		if got := model.Text(m); got != s {
			t.Errorf("%q, want %q", got, s)
		}
		mustRead(t, s, m)
	}
}

func TestTextsOfFirstEventsThatMayNotBe(t *testing.T) {
	for numbers, ok := range map[string]bool{
		"0 1 0": true, "1099511627776 2 7": true,
		"1099511627777 1 0": false, "-1 1 0": false, "9223372036854775807 1 0": false,
		"0 0 0": false, "0 3 0": false, "0 -1 0": false, "0 257 0": false, "0 4294967297 0": false, "0 -9223372036854775808 0": false,
		"0 1 8": false, "0 1 -1": false, "0 1 256": false, "0 1 4294967296": false,
	} {
		s := "proc 7\nvars 0\nkind\nproc 7\nvars 0\nkind\nfirst " + numbers + " 5\n"
		if ok {
			mustBeReadAs(t, s)
		} else {
			mustNotRead(t, s)
		}
	}
}

func TestTextsOfHowManyProcessesAndFirstEvents(t *testing.T) {
	for n := range 100 {
		s := strings.Repeat("proc 7\nvars 0\nkind\n", n) + "first 3 1 0 0\n"
		if mustBeNoOther(t, s) != (n >= 1 && n <= 16) {
			t.Errorf("%d processes", n)
		}
		s = "proc 7\nvars 0\nkind\n" + strings.Repeat("first 3 1 0 0\n", n)
		if mustBeNoOther(t, s) != (n <= 64) {
			t.Errorf("%d first events", n)
		}
	}
}

func TestTextsOfProgramsThatMayNotBe(t *testing.T) {
	for _, program := range []string{
		"", "vars 0\n", "vars 0\nkind", "vars 9\nkind\n", "vars 0\nkind\n  send 1\n", "vars 0\nkind\n  load 0\n", "vars 0\nkind\n  jump 2\n",
		"vars 0\nkind\n  proc\n", "vars 0\nkind\n  first\n", "vars 0\nkind\n end\n", "vars 0\n" + strings.Repeat("kind\n", 9),
		"vars 0\nkind\n" + strings.Repeat("  end\n", 129), "vars 0\nkind\nvars 0\nkind\n", "vars 0\nkind\n\n", "vars -1\nkind\n",
	} {
		mustNotRead(t, "proc 7\n"+program)
		mustNotRead(t, "proc 7\n"+program+"first 3 1 0 0\n")
		mustNotRead(t, "proc 7\n"+program+"proc 7\nvars 0\nkind\n")
		mustNotRead(t, "proc 7\nvars 0\nkind\nproc 7\n"+program)
	}
}

func TestTextsThatAreFarTooLong(t *testing.T) {
	mustNotRead(t, strings.Repeat("proc 7\nvars 0\nkind\n", 1<<17))
	mustNotRead(t, exampleText+strings.Repeat("first 3 1 0 0\n", 1<<17))
	mustNotRead(t, "proc"+strings.Repeat(" 7", 1<<20)+"\nvars 8\nkind\n")
	mustNotRead(t, "proc "+strings.Repeat("7", 1<<20)+"\nvars 0\nkind\n")
	mustNotRead(t, "proc 7\n"+strings.Repeat("vars 0\n", 1<<18))
	mustNotRead(t, strings.Repeat("proc ", 1<<20))
	mustNotRead(t, strings.Repeat("\n", 1<<20))
	mustNotRead(t, exampleText+strings.Repeat(" ", 1<<20))
}

func TestWhatIsReadOfATextSharesNoLists(t *testing.T) {
	m, _ := model.Read(richText)
	mustShareNoLists(t, m)
	mustRead(t, richText, rich())
}

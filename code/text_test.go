package code_test

import (
	"fmt"
	"math"
	"reflect"
	"slices"
	"strings"
	"testing"

	"riffle/api"
	"riffle/code"
)

// textByWords is a program's text, as the document's words have it.
func textByWords(p api.Program) string {
	lines := []string{fmt.Sprint("vars ", p.Vars)}
	for _, kind := range p.Kinds {
		lines = append(lines, "kind")
		for _, i := range kind {
			line := "  " + operations[i.Op-1].word
			if operations[i.Op-1].numbered {
				line += fmt.Sprint(" ", i.N)
			}
			lines = append(lines, line)
		}
	}
	return strings.Join(lines, "\n") + "\n"
}

func mustRead(t *testing.T, s string, want api.Program) {
	t.Helper()
	if p, e := code.Of(s); e != api.OK || !code.Same(p, want) {
		t.Errorf("%q: %v, %v; want %v", s, p, e, want)
	}
}

func mustNotRead(t *testing.T, s string) {
	t.Helper()
	if p, e := code.Of(s); e != api.ErrCode || !reflect.DeepEqual(p, api.Program{}) {
		t.Errorf("%q: %v, %v; want nothing and %v", s, p, e, api.ErrCode)
	}
}

// P3.2

func TestTextOfTheExample(t *testing.T) {
	p := program(0, []api.Instr{{Op: api.OpTime}, {Op: api.OpTell}})
	s := "vars 0\nkind\n  time\n  tell\n"
	if got := code.Text(p); got != s {
		t.Errorf("%q, want %q", got, s)
	}
	mustRead(t, s, p)
}

func TestTextOfAllOperations(t *testing.T) {
	s := "vars 8\nkind\nkind\n  push -9223372036854775808\n  push 9223372036854775807\n  push 0\n  push -1\n  load 7\n" +
		"  store 0\n  time\n  data\n  self\n  rand\n  add\n  sub\n  mul\n  less\n  same\n  jump 20\n  zero 10\n  send 2\n" +
		"  tell\n  end\nkind\n"
	p := program(8, nil, []api.Instr{
		{Op: api.OpPush, N: math.MinInt64}, {Op: api.OpPush, N: math.MaxInt64}, {Op: api.OpPush}, {Op: api.OpPush, N: -1},
		{Op: api.OpLoad, N: 7}, {Op: api.OpStore}, {Op: api.OpTime}, {Op: api.OpData}, {Op: api.OpSelf}, {Op: api.OpRand},
		{Op: api.OpAdd}, {Op: api.OpSub}, {Op: api.OpMul}, {Op: api.OpLess}, {Op: api.OpSame}, {Op: api.OpJump, N: 20},
		{Op: api.OpZero, N: 10}, {Op: api.OpSend, N: 2}, {Op: api.OpTell}, {Op: api.OpEnd},
	}, nil)
	if got := code.Text(p); got != s {
		t.Errorf("%q, want %q", got, s)
	}
	mustRead(t, s, p)
}

func TestTextsThereAndBack(t *testing.T) {
	for name, p := range mayBe() {
		s := code.Text(p)
		if want := textByWords(p); s != want {
			t.Errorf("%s: %q, want %q", name, s, want)
		}
		mustRead(t, s, p)
	}
}

func TestNoTextOfWhatMayNotBe(t *testing.T) {
	for name, p := range mayNotBe() {
		if s := code.Text(p); s != "" {
			t.Errorf("%s: %q", name, s)
		}
	}
}

func TestTextsOfWhatMayNotBe(t *testing.T) {
	for _, p := range mayNotBe() {
		sayable := true // a text has words for api's operations alone, and no N but those that are named
		for _, i := range slices.Concat(p.Kinds...) {
			sayable = sayable && code.Word(i.Op) != "" && (code.Numbered(i.Op) || i.N == 0)
		}
		if sayable {
			mustNotRead(t, textByWords(p))
		}
	}
}

func TestTextsThatAreCut(t *testing.T) {
	s := "vars 2\nkind\n  push 12\n  time\nkind\n  jump 1\n"
	for n := range s {
		// Behind any line but the first one it may end: then it is another program's.
		if n > len("vars 2\n") && s[n-1] == '\n' {
			if p, e := code.Of(s[:n]); e != api.OK || code.Text(p) != s[:n] {
				t.Errorf("%q: %v, %v", s[:n], p, e)
			}
		} else {
			mustNotRead(t, s[:n])
		}
		if n > 0 {
			mustNotRead(t, s[n:])
		}
	}
}

func TestTextsWithSomethingMore(t *testing.T) {
	s := "vars 2\nkind\n  push 12\n  time\nkind\n  jump 1\n"
	for n := range len(s) + 1 {
		for _, more := range []string{"\n", " ", "x", "\x00", "\r", "\t", "+", "-", "_", ".", "\n\n", "  \n", "\xFF", "é"} {
			with := s[:n] + more + s[n:]
			if with == "vars 2\nkind\n  push -12\n  time\nkind\n  jump 1\n" {
				continue
			}
			mustNotRead(t, with)
		}
	}
}

func TestTextsWithWrongLines(t *testing.T) {
	for _, s := range []string{
		"", "\n", "vars", "vars\n", "vars 0", "vars 0\n", "vars \nkind\n", "vars0\nkind\n", "vars  0\nkind\n", "vars 0 \nkind\n",
		" vars 0\nkind\n", "Vars 0\nkind\n", "vars 0 0\nkind\n", "vars 0\nvars 0\nkind\n", "kind\n", "kind\nvars 0\n",
		"vars 0\n  end\n", "vars 0\n  end\nkind\n", "vars 0\nkind", "vars 0\nkind \n", "vars 0\n kind\n", "vars 0\n  kind\n",
		"vars 0\nKind\n", "vars 0\nkinds\n", "vars 0\nkind 0\n", "vars 0\nkind\nend\n", "vars 0\nkind\n end\n", "vars 0\nkind\n   end\n",
		"vars 0\nkind\n\tend\n", "vars 0\nkind\n  \n", "vars 0\nkind\n   \n", "vars 0\nkind\n  0\n", "vars 0\nkind\n  End\n",
		"vars 0\nkind\n  end end\n", "vars 0\nkind\n  ends\n", "vars 0\nkind\n  en\n", "vars 0\nkind\n  end 0\n", "vars 0\nkind\n  end \n",
		"vars 0\nkind\n  push\n", "vars 0\nkind\n  push \n", "vars 0\nkind\n  push  1\n", "vars 0\nkind\n  push 1 \n",
		"vars 0\nkind\n  push 1 1\n", "vars 0\nkind\n  push x\n", "vars 0\nkind\n  push 1x\n", "vars 0\nkind\n  17\n",
		"vars 0\r\nkind\r\n", "\xEF\xBB\xBFvars 0\nkind\n", "vars 0\nkind\n\n", "vars 0\n\nkind\n", "vars 0\nkind\nproc 1\n",
	} {
		mustNotRead(t, s)
	}
}

func TestTextsWithWrongNumbers(t *testing.T) {
	for _, digits := range []string{
		"", "-", "+", "+1", "+0", "-0", "00", "01", "-01", "-00", "007", "--1", "1-", "- 1", "1.0", "1e3", "0x1", "0b1", "0o7", "1_0",
		"9223372036854775808", "-9223372036854775809", "18446744073709551616", "18446744073709551615", strings.Repeat("9", 40),
		"0" + strings.Repeat("0", 40), strings.Repeat("0", 40) + "1", "١", "½", "nil", "Inf",
	} {
		mustNotRead(t, "vars 0\nkind\n  push "+digits+"\n")
		mustNotRead(t, "vars "+digits+"\nkind\n")
		mustNotRead(t, "vars 8\nkind\n  load "+digits+"\n")
		mustNotRead(t, "vars 8\nkind\n  jump "+digits+"\n")
		mustNotRead(t, "vars 8\nkind\n  send "+digits+"\n")
	}
}

func TestTextsWithSendsOfOtherKinds(t *testing.T) {
	for _, s := range []string{
		"vars 0\nkind\n  send 1\n", "vars 8\nkind\n  send 7\n", "vars 0\nkind\n  send 2\nkind\n", "vars 0\nkind\nkind\n  send 2\n",
		"vars 0\nkind\n  send 8\n" + strings.Repeat("kind\n", 7), "vars 0\nkind\n  send 7\n" + strings.Repeat("kind\n", 6),
		"vars 2\nkind\n  data\n  tell\n  load 0\n  push 2\n  sub\n  store 1\n  load 1\n  push 2\n  push 5\n  push 1\n  send 1\n",
	} {
		mustNotRead(t, s)
	}
	mustRead(t, "vars 0\nkind\n  send 0\n", program(0, []api.Instr{{Op: api.OpSend}}))
	mustRead(t, "vars 0\nkind\n  send 1\nkind\n", program(0, []api.Instr{{Op: api.OpSend, N: 1}}, nil))
	mustRead(t, "vars 0\nkind\nkind\n  send 1\n", program(0, nil, []api.Instr{{Op: api.OpSend, N: 1}}))
}

func TestTextsThatAreFarTooLong(t *testing.T) {
	mustNotRead(t, "vars 0\n"+strings.Repeat("kind\n", 1<<20))
	mustNotRead(t, "vars 0\nkind\n"+strings.Repeat("  end\n", 1<<20))
	mustNotRead(t, "vars 0\nkind\n  push "+strings.Repeat("1", 1<<20)+"\n")
	mustNotRead(t, "vars 0\nkind\n  "+strings.Repeat("end", 1<<20)+"\n")
	mustNotRead(t, strings.Repeat(" ", 1<<20))
}

func TestWhatIsReadIsTheCallersOwn(t *testing.T) {
	s := "vars 1\nkind\n  push 1\n  tell\nkind\n  load 0\n  tell\n"
	p, _ := code.Of(s)
	_ = append(p.Kinds[0], ends(3)...)
	clear(p.Kinds[0])
	if !slices.Equal(p.Kinds[1], []api.Instr{{Op: api.OpLoad}, {Op: api.OpTell}}) {
		t.Errorf("one kind lies upon another one: %v", p.Kinds[1])
	}
	again, _ := code.Of(s)
	if code.Text(again) != s {
		t.Errorf("read again: %q", code.Text(again))
	}
}

package code

import (
	"strconv"
	"strings"

	"riffle/api"
)

// indent is what stands ahead of an instruction on its line.
const indent = "  "

// Text is a program's text (of one that may not be no bytes).
func Text(p api.Program) string {
	if !May(p) {
		return ""
	}
	b := strconv.AppendInt([]byte("vars "), int64(p.Vars), 10)
	b = append(b, '\n')
	for _, kind := range p.Kinds {
		b = append(b, "kind\n"...)
		for _, i := range kind {
			b = appendLine(b, i)
		}
	}
	return string(b)
}

func appendLine(b []byte, i api.Instr) []byte {
	b = append(b, indent+Word(i.Op)...)
	if Numbered(i.Op) {
		b = append(b, ' ')
		b = strconv.AppendInt(b, i.N, 10)
	}
	return append(b, '\n')
}

// Of is the program of a text.
func Of(s string) (api.Program, api.Errno) {
	r := textReader{left: s}
	return read(r.program)
}

// textReader has what is left of a text.
type textReader struct {
	left string
}

// line takes the next line, without its end.
func (r *textReader) line() string {
	line, left, ended := strings.Cut(r.left, "\n")
	must(ended)
	r.left = left
	return line
}

// program, and kind, look at the bounds as they go, since a text may be far longer than any program's.
func (r *textReader) program() api.Program {
	digits, ok := strings.CutPrefix(r.line(), "vars ")
	must(ok)
	p := api.Program{Vars: int(numberOf(digits))}
	for r.left != "" {
		must(len(p.Kinds) < api.MaxKinds)
		p.Kinds = append(p.Kinds, r.kind())
	}
	return p
}

func (r *textReader) kind() []api.Instr {
	must(r.line() == "kind")
	kind := []api.Instr{}
	for strings.HasPrefix(r.left, indent) {
		must(len(kind) < api.MaxCode)
		kind = append(kind, instructionOf(r.line()[len(indent):]))
	}
	return kind
}

func instructionOf(s string) api.Instr {
	word, digits, numbered := strings.Cut(s, " ")
	o := operationOf(word)
	must(Numbered(o) == numbered)
	if !numbered {
		return api.Instr{Op: o}
	}
	return api.Instr{Op: o, N: numberOf(digits)}
}

func operationOf(word string) api.Op {
	for i, w := range words {
		if w == word {
			return api.Op(i + 1)
		}
	}
	panic(api.ErrCode)
}

// numberOf writes the number again, since ParseInt reads '+1', '-0' and '01' as well.
func numberOf(digits string) int64 {
	n, err := strconv.ParseInt(digits, 10, 64)
	must(err == nil && strconv.FormatInt(n, 10) == digits)
	return n
}

package model

import (
	"strconv"
	"strings"

	"riffle/api"
	"riffle/code"
)

// Words of lines.
const (
	procWord  = "proc"
	firstWord = "first"
)

// lineWords is how many words a line has at most: 'proc', a seed, and variables.
const lineWords = 2 + api.MaxVars

// Text is a model's text (of one that may not be no bytes).
func Text(m api.Model) string {
	if !May(m) {
		return ""
	}
	var b []byte
	for _, p := range m.Procs {
		b = appendLine(b, procWord, append([]int64{p.Seed}, p.Vars...))
		b = append(b, code.Text(p.Program)...)
	}
	for _, e := range m.First {
		numbers := numbersOf(e)
		b = appendLine(b, firstWord, numbers[:])
	}
	return string(b)
}

func appendLine(b []byte, word string, numbers []int64) []byte {
	b = append(b, word...)
	for _, n := range numbers {
		b = append(b, ' ')
		b = strconv.AppendInt(b, n, 10)
	}
	return append(b, '\n')
}

// Read is the model of a text.
func Read(s string) (api.Model, api.Errno) {
	r := textReader{left: s}
	return whole(r.model())
}

// textReader has what is left of a text.
type textReader struct {
	left string
}

func (r *textReader) model() (m api.Model, err error) {
	for r.left != "" && err == nil {
		err = r.part(&m)
	}
	return m, err
}

// part takes a process, or a first event. What it calls looks at the bounds as it goes, since a text may be far longer than any model's.
func (r *textReader) part(m *api.Model) error {
	word, numbers, err := r.line()
	if err != nil {
		return err
	}
	switch word {
	case firstWord:
		return addFirst(m, numbers)
	case procWord:
		if len(m.First) == 0 {
			return r.addProc(m, numbers)
		}
		fallthrough // behind a first event no process comes any more
	default:
		return cannot("line")
	}
}

func addFirst(m *api.Model, numbers []int64) error {
	if len(m.First) == api.MaxFirst || len(numbers) != firstNumbers {
		return cannot(firstWord)
	}
	m.First = append(m.First, firstOf(len(m.First), [firstNumbers]int64(numbers)))
	return nil
}

func (r *textReader) addProc(m *api.Model, numbers []int64) error {
	if len(m.Procs) == api.MaxProcs || len(numbers) == 0 {
		return cannot(procWord)
	}
	program, e := code.Of(r.program())
	if e != api.OK {
		return cannot("program")
	}
	m.Procs = append(m.Procs, api.Proc{Program: program, Vars: numbers[1:], Seed: numbers[0]})
	return nil
}

// program takes the lines up to the next part: a program's text does not tell where it ends.
func (r *textReader) program() string {
	size := 0
	for line := range strings.Lines(r.left) {
		if strings.HasPrefix(line, procWord+" ") || strings.HasPrefix(line, firstWord+" ") {
			break
		}
		size += len(line)
	}
	program := r.left[:size]
	r.left = r.left[size:]
	return program
}

// line takes the next line: its word, and the numbers behind it.
func (r *textReader) line() (string, []int64, error) {
	line, left, ended := strings.Cut(r.left, "\n")
	if !ended {
		return "", nil, cannot("line")
	}
	r.left = left
	words := strings.SplitN(line, " ", lineWords) // where there are more, the last one has blanks in it, and is no number
	numbers := make([]int64, len(words)-1)
	for i, digits := range words[1:] {
		n, err := numberOf(digits)
		if err != nil {
			return "", nil, err
		}
		numbers[i] = n
	}
	return words[0], numbers, nil
}

// numberOf writes the number again, since ParseInt reads '+1', '-0' and '01' as well.
func numberOf(digits string) (int64, error) {
	n, err := strconv.ParseInt(digits, 10, 64)
	if err != nil || strconv.FormatInt(n, 10) != digits {
		return 0, cannot("number")
	}
	return n, nil
}

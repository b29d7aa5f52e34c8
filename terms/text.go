package terms

import (
	"slices"
	"strings"

	"truchman/api"
)

// The words with which lines begin.
const (
	domainLine  = "domain"
	conceptLine = "concept"
	termLine    = "term"
)

// statusWords are the words of statuses, by the numbers of these.
var statusWords = [...]string{"", "preferred", "allowed", "forbidden"}

// wrongLine is what a line that goes wrong is left with.
const wrongLine = "a line is not of the form, or not at its place"

// Print returns the text of a termbase.
func Print(b api.Termbase) (string, api.Errno) {
	if e := Check(b); e != api.OK {
		return "", e
	}
	var p printer
	for _, d := range b.Domains {
		p.line(domainLine, d)
	}
	for _, c := range b.Concepts {
		p.line(conceptLine, c.Name, c.Domain)
		for _, t := range c.Terms {
			p.line(slices.Concat([]string{termLine, t.Lang, statusWords[t.Status]}, t.Elements)...)
		}
	}
	if p.out.Len() > api.MaxText {
		return "", api.ErrLimit
	}
	return p.out.String(), api.OK
}

// printer keeps the lines that are printed.
type printer struct{ out strings.Builder }

func (p *printer) line(words ...string) {
	p.out.WriteString(strings.Join(words, " "))
	p.out.WriteByte('\n')
}

// Parse returns the termbase of a text, or the line that is wrong.
func Parse(text string) (b api.Termbase, line int, e api.Errno) {
	if len(text) > api.MaxText {
		return api.Termbase{}, 0, api.ErrLimit
	}
	b, line, ok := readLines(text)
	if !ok {
		return api.Termbase{}, line, api.ErrForm
	}
	if e := Check(b); e != api.OK {
		return api.Termbase{}, 0, e
	}
	return b, 0, api.OK
}

// readLines returns what the lines of a text say, or false and the number of the line that goes wrong.
func readLines(text string) (b api.Termbase, line int, ok bool) {
	// If a line was left, line is still its number.
	defer func() { ok = recover() == nil }()
	for s := range strings.Lines(text) {
		line++
		takeLine(&b, strings.TrimSuffix(s, "\n"))
	}
	return b, 0, true
}

// takeLine takes what a line says.
func takeLine(b *api.Termbase, line string) {
	words := strings.Split(line, " ")
	if slices.Contains(words, "") {
		panic(wrongLine)
	}
	kind, words := words[0], words[1:]
	concepts := len(b.Concepts)
	switch {
	case kind == domainLine && len(words) == 1 && concepts == 0:
		b.Domains = append(b.Domains, words[0])
	case kind == conceptLine && len(words) == 2:
		b.Concepts = append(b.Concepts, api.Concept{Name: words[0], Domain: words[1]})
	case kind == termLine && len(words) > 2 && concepts > 0:
		c := &b.Concepts[concepts-1]
		c.Terms = append(c.Terms, api.TermEntry{Lang: words[0], Status: readStatus(words[1]), Elements: words[2:]})
	default:
		panic(wrongLine)
	}
}

// readStatus leaves the line if word is not that of a status.
func readStatus(word string) api.TermStatus {
	for s := api.TsPreferred; s <= api.TsForbidden; s++ {
		if statusWords[s] == word {
			return s
		}
	}
	panic(wrongLine)
}

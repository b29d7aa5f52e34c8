package grammar

import (
	"slices"
	"strconv"
	"strings"

	"truchman/api"
)

// maxNumber is the greatest number of a line. What it may be in a system, Check tells.
const maxNumber = 99999

// Parse reads the text of a start category and rules, and returns the system that has them and two lexicons.
func Parse(source, target api.Lexicon, text string) (s api.System, line int, e api.Errno) {
	if len(text) > api.MaxText {
		return api.System{}, 0, api.ErrLimit
	}
	p := parser{s: api.System{Source: cloneLexicon(source), Target: cloneLexicon(target)}}
	if s, e = caught(func() api.System { return p.read(text) }); e != api.OK {
		return s, p.line, e
	}
	if e = Check(s); e != api.OK {
		return api.System{}, 0, e
	}
	return s, 0, api.OK
}

// parser puts what lines say into a system.
type parser struct {
	s    api.System
	line int    // the number of the last line that was not passed over
	kind string // its kind; empty ahead of the first one
}

// read returns what the lines of a text say. If one goes wrong, its number is still in line.
func (p *parser) read(text string) api.System {
	number := 0
	for line := range strings.Lines(text) {
		number++
		line = strings.TrimSuffix(line, "\n")
		if line == "" || line[0] == ';' {
			continue
		}
		p.line = number
		words := strings.Split(line, " ")
		if slices.Contains(words, "") || !slices.Contains(kindsAhead(words[0]), p.kind) {
			panic(api.ErrForm)
		}
		p.kind = words[0]
		p.take(words[1:])
	}
	if !slices.Contains(kindsAhead("rule"), p.kind) { // what a rule may stand behind is whole
		panic(api.ErrForm)
	}
	return p.s
}

// kindsAhead returns the kinds of lines that may stand right ahead of one of a kind; the empty one is the beginning.
func kindsAhead(kind string) []string {
	switch kind {
	case "start":
		return []string{""}
	case "rule":
		return []string{"start", "target", "has", "same"}
	case "cat", "lex", "source":
		return []string{"rule", "cat", "lex"}
	case "target":
		return []string{"source"}
	case "has", "same":
		return []string{"target", "has", "same"}
	}
	return nil
}

// take takes what a line says.
func (p *parser) take(words []string) {
	switch p.kind {
	case "start":
		p.s.Start = exactly(words, 1)[0]
	case "rule":
		words = exactly(words, 2)
		p.s.Rules = append(p.s.Rules, api.Rule{Left: words[0], Cost: readNumber(words[1], maxNumber)})
	default:
		takeOfRule(&p.s.Rules[len(p.s.Rules)-1], p.kind, words)
	}
}

// takeOfRule takes what a line behind its rule line says.
func takeOfRule(r *api.Rule, kind string, words []string) {
	switch kind {
	case "cat":
		r.Parts = append(r.Parts, api.Part{Cat: exactly(words, 1)[0]})
	case "lex":
		words = exactly(words, 2)
		r.Parts = append(r.Parts, api.Part{From: words[0], To: words[1]})
	case "source":
		r.Source = converted(words, readItem)
	case "target":
		r.Target = converted(words, readItem)
	case "has":
		words = exactly(words, 2)
		r.Equations = append(r.Equations, api.Equation{A: readPath(words[0]), Value: words[1]})
	case "same":
		words = exactly(words, 2)
		r.Equations = append(r.Equations, api.Equation{A: readPath(words[0]), B: readPath(words[1])})
	}
}

// exactly returns words, of which there are n.
func exactly(words []string, n int) []string {
	if len(words) != n {
		panic(api.ErrForm)
	}
	return words
}

// wordMark stands ahead of an item that is a word.
const wordMark = "="

func readItem(s string) api.Item {
	word, ok := strings.CutPrefix(s, wordMark)
	if !ok {
		return api.Item{Part: readNumber(s, maxNumber)}
	}
	if word == "" {
		panic(api.ErrForm)
	}
	return api.Item{Word: word}
}

func writeItem(x api.Item) string {
	if x.Part == 0 {
		return wordMark + x.Word
	}
	return strconv.Itoa(x.Part)
}

// How the sides of paths are written.
const (
	sourceMark = "s"
	targetMark = "t"
)

func readPath(s string) api.Path {
	words := exactly(strings.SplitN(s, ".", 3), 3)
	if words[1] != sourceMark && words[1] != targetMark {
		panic(api.ErrForm)
	}
	return api.Path{Node: readNumber(words[0], maxNumber), Target: words[1] == targetMark, Name: words[2]}
}

func writePath(p api.Path) string {
	mark := sourceMark
	if p.Target {
		mark = targetMark
	}
	return strconv.Itoa(p.Node) + "." + mark + "." + p.Name
}

// Print returns the text of the start category and the rules of a system.
func Print(s api.System) (string, api.Errno) {
	if e := Check(s); e != api.OK {
		return "", e
	}
	var p printer
	p.line("start", s.Start)
	for _, r := range s.Rules {
		p.rule(r)
	}
	if p.out.Len() > api.MaxText {
		return "", api.ErrLimit
	}
	return p.out.String(), api.OK
}

// printer keeps the lines that are printed.
type printer struct{ out strings.Builder }

func (p *printer) line(kind string, words ...string) {
	p.out.WriteString(kind)
	for _, w := range words {
		p.out.WriteString(" " + w)
	}
	p.out.WriteString("\n")
}

func (p *printer) rule(r api.Rule) {
	p.line("rule", r.Left, strconv.Itoa(r.Cost))
	for _, x := range r.Parts {
		if x.Cat != "" {
			p.line("cat", x.Cat)
		} else {
			p.line("lex", x.From, x.To)
		}
	}
	p.line("source", converted(r.Source, writeItem)...)
	p.line("target", converted(r.Target, writeItem)...)
	for _, q := range r.Equations {
		if q.Value != "" {
			p.line("has", writePath(q.A), q.Value)
		} else {
			p.line("same", writePath(q.A), writePath(q.B))
		}
	}
}

package desk

import (
	"strings"

	"truchman/api"
	"truchman/checks"
	"truchman/docs"
	"truchman/grammar"
	"truchman/morph"
	"truchman/office"
	"truchman/terms"
	"truchman/train"
)

func (t *task) makeLexicon() string {
	l, _, e := morph.Parse(t.text())
	check(e)
	return t.give(lexicon(l))
}

func (t *task) makeSystem() string {
	s, _, e := grammar.Parse(t.lexicons[0], t.lexicons[1], t.text())
	check(e)
	return t.give(system(s))
}

func (t *task) makeModel() string {
	m, e := train.Build(each(t.lines, sentenceOf))
	check(e)
	return t.give(model(m))
}

// sentenceOf returns the words of a line. Two blanks side by side have an empty one between them, which train.Build refuses.
func sentenceOf(line string) []string {
	if line == "" {
		return nil
	}
	return strings.Split(line, " ")
}

func (t *task) makeTermbase() string {
	b, _, e := terms.Parse(t.text())
	check(e)
	return t.give(termbase(b))
}

func (t *task) makeRules() string {
	l := each(t.lines, breakOf)
	check(docs.CheckBreaks(l))
	return t.give(rules(l))
}

// breakOf returns the break rule that a line says.
func breakOf(line string) api.Break {
	kind, rest, _ := strings.Cut(line, " ")
	refuse(kind != "break" && kind != "keep", api.ErrForm)
	before, rest := cutString(rest)
	rest, ok := strings.CutPrefix(rest, " ")
	refuse(!ok, api.ErrForm)
	after, rest := cutString(rest)
	refuse(rest != "", api.ErrForm)
	return api.Break{Before: before, After: after, Break: kind == "break"}
}

// cutString returns what the STRING stands for that a text begins with, and what is behind it.
func cutString(text string) (content, rest string) {
	rest, ok := strings.CutPrefix(text, `"`)
	refuse(!ok, api.ErrForm)
	var out []byte
	for i := 0; i < len(rest); i++ {
		switch rest[i] {
		case '"':
			refuse(!isText(string(out)), api.ErrForm)
			return string(out), rest[i+1:]
		case '\\':
			i++
			refuse(i == len(rest) || rest[i] != '"' && rest[i] != '\\', api.ErrForm)
		}
		out = append(out, rest[i])
	}
	panic(refusal{api.ErrForm}) // it does not end
}

// isText asks docs whether a string is text, which knows it by its errors alone.
func isText(s string) bool {
	return s == "" || docs.CheckPieces([]api.Piece{{Kind: api.PiText, Text: s}}) == api.OK
}

func (t *task) makeChecks() string {
	l := each(t.lines, ratingOf)
	_, e := checks.Report(l, nil)
	check(e)
	return t.give(ratings(l))
}

// ratingOf returns the rating that a line says.
func ratingOf(line string) api.Rating {
	parts := strings.SplitN(line, " ", 3)
	refuse(len(parts) < 3 || parts[0] == "", api.ErrForm)
	weight, ok := countOf(parts[1])
	refuse(!ok, api.ErrForm)
	return api.Rating{Name: parts[0], Formula: parts[2], Weight: weight}
}

func (t *task) makeOffice() string {
	o, e := office.New(t.text(), t.rules)
	check(e)
	return t.give(bureau(o))
}

func (t *task) copyOffice() string { return t.give(bureau(t.offices[0])) }

func (t *task) merge() string {
	base, a, b := t.offices[0], t.offices[1], t.offices[2]
	merged, conflicts, e := office.Merge(base, a, b)
	check(e)
	t.give(bureau(merged))
	proof := t.certify(api.Certificate{Kind: api.CtMerge, Base: base, A: a, B: b, Merged: merged})
	return "office " + t.words[0] + ": " + counted(len(conflicts), "conflicts") + proof
}

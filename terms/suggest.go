package terms

import (
	"slices"

	"truchman/api"
	"truchman/morph"
)

// Suggest returns what may stand in the place of an occurrence.
func Suggest(b api.Termbase, t api.Tongue, words []string, o api.Occurrence) ([][]string, api.Errno) {
	f, e := finderFor(b, t, words)
	if e != api.OK {
		return nil, e
	}
	if !slices.Contains(f.all(words), o) {
		return nil, api.ErrNone
	}
	preferred := f.preferred(o.Concept)
	if len(preferred) == 0 {
		return nil, api.ErrNone
	}
	old := termAt(f.terms, o)
	first := f.reader.read(words[o.At])
	var out [][]string
	for _, p := range preferred {
		for _, row := range f.reader.rowsFor(p, old, first) {
			row[0] = likened(row[0], first.text)
			if !slices.ContainsFunc(out, func(x []string) bool { return slices.Equal(x, row) }) {
				out = append(out, row)
			}
		}
	}
	return out, api.OK
}

// preferred returns the preferred terms of a concept.
func (f *finder) preferred(concept int) []term {
	var out []term
	for _, t := range f.terms {
		if t.concept == concept && f.base.Concepts[concept].Terms[t.number].Status == api.TsPreferred {
			out = append(out, t)
		}
	}
	return out
}

// termAt returns the term of an occurrence.
func termAt(l []term, o api.Occurrence) term {
	n := slices.IndexFunc(l, func(t term) bool { return t.concept == o.Concept && t.number == o.Term })
	return l[n]
}

// lemma returns the plain word that the term is; empty if it is none, or more.
func (t term) lemma() string {
	if len(t.elements) > 1 {
		return ""
	}
	return t.elements[0].lemma()
}

// rowsFor returns the rows of a term that may stand in the place of another one, an occurrence of which begins with a word.
func (r *reader) rowsFor(t, old term, first *word) [][]string {
	var out [][]string
	if t.lemma() != "" && old.lemma() != "" {
		for _, form := range r.inflected(t.lemma(), old.lemma(), first) {
			out = append(out, []string{form})
		}
	}
	if len(out) == 0 {
		out = append(out, t.suggested())
	}
	return out
}

// inflected returns the forms of a lemma that have the features that a word has as a form of an old lemma.
func (r *reader) inflected(lemma, old string, w *word) []string {
	var out []string
	for _, x := range w.simple {
		if r.lemmaOf(x) != old {
			continue
		}
		feats, _ := morph.Feats(r.lexicon, x.Entry, x.Slot)
		forms, _ := morph.Generate(r.lexicon, lemma, feats) // an error says that no entry has the lemma
		out = append(out, forms...)
	}
	return out
}

// suggested returns the words that stand for the elements of a term.
func (t term) suggested() []string {
	var out []string
	for _, x := range t.elements {
		out = append(out, x.suggested())
	}
	return out
}

// likened returns a word with a great first letter if that of another one is great.
func likened(text, other string) string {
	if isGreat(other[0]) && 'a' <= text[0] && text[0] <= 'z' {
		return string(text[0]-'a'+'A') + text[1:]
	}
	return text
}

package terms

import (
	"slices"

	"truchman/api"
	"truchman/morph"
)

// word is a word of a text, and what it may be.
type word struct {
	text, low string
	simple    []api.Analysis // those without first parts
	lemmas    [][]string     // of each analysis those of its parts; rows that are equal stand once
}

// reader reads words by a lexicon, each of them once.
type reader struct {
	lexicon  api.Lexicon
	analyzer *morph.Analyzer
	known    map[string]*word
}

// newReader returns morph.Check's error for the lexicon, or a reader.
func newReader(l api.Lexicon) (*reader, api.Errno) {
	a, e := morph.New(l)
	if e != api.OK {
		return nil, e
	}
	return &reader{l, a, map[string]*word{}}, api.OK
}

func (r *reader) read(text string) *word {
	if w, ok := r.known[text]; ok {
		return w
	}
	w := &word{text: text, low: lower(text)}
	analyses, _ := r.analyzer.Analyze(w.low) // an error says that low is no word
	for _, x := range analyses {
		if len(x.Firsts) == 0 {
			w.simple = append(w.simple, x)
		}
		w.lemmas = append(w.lemmas, r.lemmasOf(x))
	}
	slices.SortFunc(w.lemmas, slices.Compare)
	w.lemmas = slices.CompactFunc(w.lemmas, slices.Equal)
	r.known[text] = w
	return w
}

// readAll returns what all words are, in order.
func (r *reader) readAll(words []string) []*word {
	var out []*word
	for _, text := range words {
		out = append(out, r.read(text))
	}
	return out
}

// lemmasOf returns the lemmas of the parts of an analysis.
func (r *reader) lemmasOf(x api.Analysis) []string {
	var out []string
	for _, f := range x.Firsts {
		out = append(out, r.lexicon.Entries[f.Entry].Lemma)
	}
	return append(out, r.lemmaOf(x))
}

// lemmaOf returns the lemma of the entry of an analysis.
func (r *reader) lemmaOf(x api.Analysis) string { return r.lexicon.Entries[x.Entry].Lemma }

// lower returns s with letters a to z for A to Z. It leaves all other bytes, which need not be UTF-8.
func lower(s string) string {
	out := []byte(s)
	for i, c := range out {
		if isGreat(c) {
			out[i] = c - 'A' + 'a'
		}
	}
	return string(out)
}

func isGreat(c byte) bool { return 'A' <= c && c <= 'Z' }

// Matches reports whether a word matches an element.
func Matches(t api.Tongue, element, word string) (bool, api.Errno) {
	r, e := newReader(t.Lexicon)
	if e != api.OK {
		return false, e
	}
	x, ok := readElement(element)
	if !ok {
		return false, api.ErrForm
	}
	return x.matches(r.read(word)), api.OK
}

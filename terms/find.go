package terms

import (
	"cmp"
	"slices"

	"truchman/api"
	"truchman/morph"
)

// term is a term of a tongue, by the numbers of its concept and of itself.
type term struct {
	concept, number int
	elements        []element
}

// begins reports whether words begin with such as match the elements of the term.
func (t term) begins(words []*word) bool {
	if len(t.elements) > len(words) {
		return false
	}
	for i, x := range t.elements {
		if !x.matches(words[i]) {
			return false
		}
	}
	return true
}

// finder finds the terms of a tongue in words.
type finder struct {
	base   api.Termbase
	reader *reader
	terms  []term
}

// findersOf returns a finder for each tongue, or the first error of the termbase, of the names of the tongues, and of their lexicons.
func findersOf(b api.Termbase, tongues ...api.Tongue) ([]*finder, api.Errno) {
	if e := Check(b); e != api.OK {
		return nil, e
	}
	for _, t := range tongues {
		if !morph.Name(t.Name) {
			return nil, api.ErrName
		}
	}
	var out []*finder
	for _, t := range tongues {
		r, e := newReader(t.Lexicon)
		if e != api.OK {
			return nil, e
		}
		out = append(out, &finder{b, r, termsOf(b, t.Name)})
	}
	return out, api.OK
}

// finderFor returns a finder, or the first error of what it is made of, and of the words in which it is to find terms.
func finderFor(b api.Termbase, t api.Tongue, words []string) (*finder, api.Errno) {
	l, e := findersOf(b, t)
	if e != api.OK {
		return nil, e
	}
	if len(words) > api.MaxWords {
		return nil, api.ErrLimit
	}
	return l[0], api.OK
}

// termsOf returns the terms of a language, by concepts, then by their numbers.
func termsOf(b api.Termbase, lang string) []term {
	var out []term
	for concept, c := range b.Concepts {
		for number, t := range c.Terms {
			if t.Lang == lang {
				out = append(out, term{concept, number, readElements(t.Elements)})
			}
		}
	}
	return out
}

// readElements wants elements of a valid termbase.
func readElements(l []string) []element {
	var out []element
	for _, s := range l {
		x, _ := readElement(s)
		out = append(out, x)
	}
	return out
}

// isForbidden reports whether an occurrence is one of a forbidden term.
func isForbidden(b api.Termbase, o api.Occurrence) bool {
	return b.Concepts[o.Concept].Terms[o.Term].Status == api.TsForbidden
}

// All returns all occurrences of terms in words.
func All(b api.Termbase, t api.Tongue, words []string) ([]api.Occurrence, api.Errno) {
	f, e := finderFor(b, t, words)
	if e != api.OK {
		return nil, e
	}
	return f.all(words), api.OK
}

func (f *finder) all(words []string) []api.Occurrence {
	var out []api.Occurrence
	read := f.reader.readAll(words)
	for at := range read {
		for _, t := range f.terms {
			if t.begins(read[at:]) {
				out = append(out, api.Occurrence{At: at, Words: len(t.elements), Concept: t.concept, Term: t.number})
			}
		}
	}
	return out
}

// Find returns a choice of them that have no word in common.
func Find(b api.Termbase, t api.Tongue, words []string) ([]api.Occurrence, api.Errno) {
	f, e := finderFor(b, t, words)
	if e != api.OK {
		return nil, e
	}
	return f.find(words), api.OK
}

func (f *finder) find(words []string) []api.Occurrence {
	c := choice{order: f.compare}
	return c.of(f.all(words))
}

// compare tells which occurrence is chosen first.
func (f *finder) compare(x, y api.Occurrence) int {
	return cmp.Or(
		cmp.Compare(y.Words, x.Words),
		cmp.Compare(x.At, y.At),
		f.compareStatus(x, y),
		cmp.Compare(x.Concept, y.Concept),
		cmp.Compare(x.Term, y.Term),
	)
}

// compareStatus puts what is not forbidden ahead.
func (f *finder) compareStatus(x, y api.Occurrence) int {
	a, b := isForbidden(f.base, x), isForbidden(f.base, y)
	switch {
	case a == b:
		return 0
	case a:
		return 1
	}
	return -1
}

// choice chooses occurrences that have no word in common, the first ones in an order.
type choice struct {
	order func(x, y api.Occurrence) int
}

// of returns what is chosen of a list, by At.
func (c choice) of(l []api.Occurrence) []api.Occurrence {
	slices.SortFunc(l, c.order)
	var out []api.Occurrence
	taken := map[int]bool{}
next:
	for _, o := range l {
		for i := range o.Words {
			if taken[o.At+i] {
				continue next
			}
		}
		for i := range o.Words {
			taken[o.At+i] = true
		}
		out = append(out, o)
	}
	slices.SortFunc(out, func(x, y api.Occurrence) int { return cmp.Compare(x.At, y.At) })
	return out
}

package morph

import (
	"cmp"
	"iter"
	"slices"
	"strings"

	"truchman/api"
)

// Analyzer finds the analyses of words. It keeps nothing of the lexicon that it was made of but strings.
type Analyzer struct {
	tree  tree
	glues []string // of each link
}

// New returns an analyzer of a lexicon.
func New(l api.Lexicon) (*Analyzer, api.Errno) {
	if e := Check(l); e != api.OK {
		return nil, e
	}
	a := &Analyzer{tree: make(tree, 1)}
	for _, k := range l.Links {
		a.glues = append(a.glues, k.Glue)
	}
	for entry := range l.Entries {
		for slot := range slotsOf(l, entry) {
			if word, ok := formAt(l, entry, slot); ok {
				a.tree.add(word, form{entry, slot, linksOf(l, entry, slot)})
			}
		}
	}
	return a, api.OK
}

// linksOf returns the links by which a form may be a first part.
func linksOf(l api.Lexicon, entry, slot int) []int {
	var out []int
	for link := range l.Links {
		if linked(l, api.First{Entry: entry, Slot: slot, Link: link}) {
			out = append(out, link)
		}
	}
	return out
}

// made reports whether New returned the analyzer.
func (a *Analyzer) made() bool { return a != nil && len(a.tree) > 0 }

// Analyze returns all analyses of a word.
func Analyze(l api.Lexicon, word string) ([]api.Analysis, api.Errno) {
	a, e := New(l)
	if e != api.OK {
		return nil, e
	}
	return a.Analyze(word)
}

// Analyze returns all analyses of a word.
func (a *Analyzer) Analyze(word string) ([]api.Analysis, api.Errno) {
	if !a.made() {
		return nil, api.ErrNil
	}
	if !Word(word) {
		return nil, api.ErrArg
	}
	s := search{a, map[task][]api.Analysis{}}
	var out []api.Analysis
	for firsts := range api.MaxFirsts + 1 {
		out = append(out, s.find(task{word, firsts})...)
	}
	return out, api.OK
}

// task is to analyze the rest of a word with a number of first parts.
type task struct {
	rest   string
	firsts int
}

// search analyzes one word. Many first parts leave the same rest, so what is found of a rest is kept.
type search struct {
	analyzer *Analyzer
	found    map[task][]api.Analysis
}

// find returns the analyses that a task asks for, in order.
func (s search) find(t task) []api.Analysis {
	if out, ok := s.found[t]; ok {
		return out
	}
	var out []api.Analysis
	if t.firsts == 0 {
		out = s.analyzer.whole(t.rest)
	} else {
		for _, b := range s.analyzer.beginnings(t.rest) {
			for _, x := range s.find(task{t.rest[b.length:], t.firsts - 1}) {
				x.Firsts = slices.Concat([]api.First{b.first}, x.Firsts)
				out = append(out, x)
			}
		}
	}
	s.found[t] = out
	return out
}

// whole returns the analyses without first parts.
func (a *Analyzer) whole(word string) []api.Analysis {
	var out []api.Analysis
	for length, forms := range a.tree.prefixes(word) {
		if length < len(word) {
			continue
		}
		for _, f := range forms {
			out = append(out, api.Analysis{Entry: f.entry, Slot: f.slot})
		}
	}
	return out
}

// beginning is a first part with which a word begins, and how many letters it has with its glue.
type beginning struct {
	first  api.First
	length int
}

// beginnings returns the first parts with which a word begins, in order.
func (a *Analyzer) beginnings(word string) []beginning {
	var out []beginning
	for length, forms := range a.tree.prefixes(word) {
		for _, f := range forms {
			for _, link := range f.links {
				if strings.HasPrefix(word[length:], a.glues[link]) {
					first := api.First{Entry: f.entry, Slot: f.slot, Link: link}
					out = append(out, beginning{first, length + len(a.glues[link])})
				}
			}
		}
	}
	slices.SortFunc(out, func(x, y beginning) int { return compareFirsts(x.first, y.first) })
	return out
}

func compareFirsts(x, y api.First) int {
	return cmp.Or(cmp.Compare(x.Entry, y.Entry), cmp.Compare(x.Slot, y.Slot), cmp.Compare(x.Link, y.Link))
}

// all tells the words that are forms, increasing.
func (a *Analyzer) all() iter.Seq2[string, []form] {
	if a == nil {
		return tree{}.words()
	}
	return a.tree.words()
}

// Words returns all words that are forms, increasing.
func (a *Analyzer) Words() []string {
	var out []string
	for word := range a.all() {
		out = append(out, word)
	}
	return out
}

// After returns the first of the words that is greater than word; false if there is none.
func (a *Analyzer) After(word string) (string, bool) {
	for next := range a.all() {
		if next > word {
			return next, true
		}
	}
	return "", false
}

// Ambiguous returns the words that are forms of more than one entry and slot, increasing.
func (a *Analyzer) Ambiguous() []string {
	var out []string
	for word, forms := range a.all() {
		if len(forms) > 1 {
			out = append(out, word)
		}
	}
	return out
}

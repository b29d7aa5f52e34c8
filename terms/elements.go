package terms

import (
	"slices"
	"strings"

	"truchman/api"
	"truchman/docs"
	"truchman/morph"
)

// element is a part of a term: what a word of a text is held against.
type element interface {
	// matches reports whether a word matches the element.
	matches(w *word) bool
	// lemma returns the plain word that the element is; empty if it is none, or more than one.
	lemma() string
	// suggested returns the word that stands for the element where it is suggested.
	suggested() string
}

// literal is a bare word.
type literal string

// lexical is plain words: the lemmas of the parts of a word.
type lexical []string

const (
	literalMark = "="
	partMark    = "+"
)

// readElement returns the element that is written as s; false if there is none.
func readElement(s string) (element, bool) {
	if text, ok := strings.CutPrefix(s, literalMark); ok {
		if !isBare(text) {
			return nil, false
		}
		return literal(text), true
	}
	lemmas := strings.Split(s, partMark)
	if len(lemmas) > api.MaxFirsts+1 || slices.ContainsFunc(lemmas, isNotPlain) {
		return nil, false
	}
	return lexical(lemmas), true
}

// isBare reports whether s is a bare word.
func isBare(s string) bool {
	words := []string{s}
	return docs.CheckWords(words) == api.OK && len(docs.Bare(words)) == 1
}

func isNotPlain(s string) bool { return !morph.Plain(s) }

func (l literal) matches(w *word) bool { return string(l) == w.text }

func (l literal) lemma() string { return "" }

func (l literal) suggested() string { return string(l) }

func (l lexical) matches(w *word) bool {
	if len(l) == 1 && l[0] == w.low {
		return true
	}
	return slices.ContainsFunc(w.lemmas, func(row []string) bool { return slices.Equal(row, l) })
}

func (l lexical) lemma() string {
	if len(l) > 1 {
		return ""
	}
	return l[0]
}

func (l lexical) suggested() string { return strings.Join(l, "") }

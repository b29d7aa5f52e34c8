package desk

import (
	"slices"
	"strings"

	"truchman/api"
	"truchman/decode"
	"truchman/docs"
	"truchman/grammar"
	"truchman/morph"
)

func (t *task) draft() string {
	segments := segmentsOf(t.offices[0])
	n := t.counts[0]
	refuse(n >= len(segments), api.ErrNone)
	text := t.drafted(segments[n].Pieces)
	t.write(text)
	return "draft: " + text
}

// drafted returns the text of the best translation of a segment, with the tags of that.
func (t *task) drafted(segment []api.Piece) string {
	words, e := docs.Words(segment)
	check(e)
	words = docs.Bare(words)
	sentence := each(words, lower)
	refuse(slices.ContainsFunc(sentence, isNoWord), api.ErrScope)
	trees, e := decode.Best(t.system, t.model, sentence, 1)
	check(e)
	refuse(len(trees) == 0, api.ErrNone)
	r, e := grammar.Derive(t.system, trees[0])
	check(e)
	if isGreat(words[0]) && len(r.Target) > 0 { // what has a tree has words
		r.Target[0] = raised(r.Target[0])
	}
	pieces, e := docs.Project(segment, r.Target, tiesOf(t.system.Rules, trees[0]))
	check(e)
	text, e := docs.Write(pieces)
	check(e)
	return text
}

func isNoWord(s string) bool { return !morph.Word(s) }

// lower returns a word with letters a to z for A to Z. All else stays: the sign of Kelvin would become a k.
func lower(word string) string {
	return strings.Map(func(r rune) rune {
		if 'A' <= r && r <= 'Z' {
			return r - 'A' + 'a'
		}
		return r
	}, word)
}

// isGreat reports whether a word, which is not empty, begins with a letter A to Z.
func isGreat(word string) bool { return 'A' <= word[0] && word[0] <= 'Z' }

// raised returns a word of a translation with a great first letter.
func raised(word string) string { return strings.ToUpper(word[:1]) + word[1:] }

package docs

import (
	"iter"

	"truchman/api"
)

// wordsOf yields the words of a piece.
func wordsOf(p api.Piece) iter.Seq[string] {
	return func(yield func(string) bool) {
		if p.Kind != api.PiText {
			yield(writeMark(p))
			return
		}
		row := 0 // where the row of letters and digits begins
		for i, r := range p.Text {
			c := classOf(r)
			if c == letter || c == digit {
				continue
			}
			if row < i && !yield(p.Text[row:i]) {
				return
			}
			// What ends a row is no letter, and so a single byte.
			row = i + 1
			if c == mark && !yield(p.Text[i:row]) {
				return
			}
		}
		if row < len(p.Text) {
			yield(p.Text[row:])
		}
	}
}

// Words returns the words of a list.
func Words(l []api.Piece) ([]string, api.Errno) {
	if e := CheckPieces(l); e != api.OK {
		return nil, e
	}
	var out []string
list:
	for _, p := range l {
		for w := range wordsOf(p) {
			out = append(out, w)
			if len(out) > api.MaxWords {
				break list
			}
		}
	}
	if len(out) > api.MaxWords {
		return nil, api.ErrLimit
	}
	return out, api.OK
}

// readWord returns the tag, the hole or the text that a word stands for; false if it is no word.
func readWord(w string) (api.Piece, bool) {
	if p, ok := readMark(w); ok {
		return p, true
	}
	if !isText(w) {
		return api.Piece{}, false
	}
	p := api.Piece{Kind: api.PiText, Text: w}
	for first := range wordsOf(p) {
		if first == w {
			return p, true
		}
		break
	}
	return api.Piece{}, false
}

// readWords returns a piece for each word, texts not joined; false if one is no word.
func readWords(words []string) ([]api.Piece, bool) {
	var out []api.Piece
	for _, w := range words {
		p, ok := readWord(w)
		if !ok {
			return nil, false
		}
		out = append(out, p)
	}
	return out, true
}

// CheckWords returns the first error of a list of words.
func CheckWords(words []string) api.Errno {
	if len(words) > api.MaxWords {
		return api.ErrLimit
	}
	l, ok := readWords(words)
	if !ok {
		return api.ErrForm
	}
	for i, p := range l {
		if p.Kind == api.PiText {
			l[i] = api.Piece{Kind: api.PiHole, Text: "x"}
		}
	}
	return CheckPieces(l)
}

// FromWords returns the spaced form of words.
func FromWords(words []string) ([]api.Piece, api.Errno) {
	if e := CheckWords(words); e != api.OK {
		return nil, e
	}
	l, _ := readWords(words)
	out := space(l)
	if isLong(out) {
		return nil, api.ErrLimit
	}
	return out, api.OK
}

// space returns the spaced form of words, which are handed to it as a piece each.
func space(words []api.Piece) []api.Piece {
	var out joiner
	var last api.Piece // the last bare word
	due := false       // whether a blank may have to come behind it
	for i, p := range words {
		if due && p.Kind != api.PiClose {
			if next, ok := firstBare(words[i:]); ok && apart(last, next) {
				out.putText(" ")
			}
			due = false
		}
		if !isTag(p) {
			last, due = p, true
		}
		out.put(p)
	}
	return out.done()
}

func firstBare(words []api.Piece) (api.Piece, bool) {
	for _, p := range words {
		if !isTag(p) {
			return p, true
		}
	}
	return api.Piece{}, false
}

// apart reports whether there is a blank between two bare words. It does not ask their kinds: no name of a hole is a mark.
func apart(a, b api.Piece) bool {
	switch b.Text {
	case ".", ",", ";", ":", "!", "?", ")", "]":
		return false
	}
	return a.Text != "(" && a.Text != "["
}

func isTagWord(w string) bool {
	p, ok := readMark(w)
	return ok && isTag(p)
}

// Bare returns the words that are no tags.
func Bare(words []string) []string {
	var out []string
	for _, w := range words {
		if !isTagWord(w) {
			out = append(out, w)
		}
	}
	return out
}

// Tags returns the tags of a list.
func Tags(l []api.Piece) ([]string, api.Errno) {
	if e := CheckPieces(l); e != api.OK {
		return nil, e
	}
	var out []string
	for _, p := range l {
		if isTag(p) {
			out = append(out, writeMark(p))
		}
	}
	return out, api.OK
}

package checks

import (
	"iter"
	"strconv"

	"truchman/api"
)

// maxWritten is the greatest number that may be written in a formula.
const maxWritten = 1000000

// wordKind is a kind of words of a formula.
type wordKind uint8

const (
	endWord wordKind = iota // there is no further word
	numberWord
	stringWord
	letterWord // letters: a word with a meaning, or a name
	signWord
)

// word is a word of a formula: where it begins, how many bytes it has, and what it is; of a string what it stands for.
type word struct {
	kind     wordKind
	at, size int
	text     string
}

// told yields the words of a formula. A word that may not be, or a place where none begins, comes with false, and is the last one.
func told(text string) iter.Seq2[word, bool] {
	return func(yield func(word, bool) bool) {
		for at := 0; at < len(text); {
			if text[at] == ' ' {
				at++
				continue
			}
			w, ok := wordAt(text, at)
			if !yield(w, ok) || !ok {
				return
			}
			at += w.size
		}
	}
}

// wordAt returns the word that begins at a place; false if none does, or one that may not be.
func wordAt(text string, at int) (word, bool) {
	rest := text[at:]
	var w word
	var ok bool
	switch first := rest[0]; {
	case first == '"':
		w, ok = stringIn(rest)
	case isDigit(first):
		w, ok = numberIn(rest)
	case isLetter(first):
		w = word{kind: letterWord, text: rest[:reach(rest, isLetter)]}
		w.size = len(w.text)
		ok = w.size <= api.MaxName
	default:
		w, ok = signIn(rest)
	}
	w.at = at
	return w, ok
}

func isDigit(b byte) bool { return '0' <= b && b <= '9' }

func isLetter(b byte) bool { return 'a' <= b && b <= 'z' }

// reach returns how many bytes of a kind a text begins with.
func reach(text string, is func(byte) bool) int {
	for i := range len(text) {
		if !is(text[i]) {
			return i
		}
	}
	return len(text)
}

// numberIn returns the number that a text begins with.
func numberIn(rest string) (word, bool) {
	digits := rest[:reach(rest, isDigit)]
	w := word{kind: numberWord, size: len(digits), text: digits}
	n, err := strconv.Atoi(digits)
	return w, err == nil && n <= maxWritten && strconv.Itoa(n) == digits
}

// stringIn returns the string that a text begins with.
func stringIn(rest string) (word, bool) {
	var content []byte
	for i := 1; i < len(rest); i++ {
		switch b := rest[i]; b {
		case '"':
			w := word{kind: stringWord, size: i + 1, text: string(content)}
			return w, isText(w.text)
		case '\\':
			i++
			if i == len(rest) || rest[i] != '"' && rest[i] != '\\' {
				return word{}, false
			}
			content = append(content, rest[i])
		default:
			content = append(content, b)
		}
	}
	return word{}, false
}

// signIn returns the sign that a text begins with: the longest one.
func signIn(rest string) (word, bool) {
	if len(rest) > 1 {
		switch two := rest[:2]; two {
		case "==", "!=", "<=", ">=":
			return word{kind: signWord, size: 2, text: two}, true
		}
	}
	switch rest[0] {
	case '<', '>', '~', '(', ')', ',', ':', '+', '-', '*':
		return word{kind: signWord, size: 1, text: rest[:1]}, true
	}
	return word{}, false
}

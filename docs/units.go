package docs

import (
	"iter"
	"unicode/utf8"

	"truchman/api"
)

// class is what a unit is. Text has no control runes.
type class uint8

const (
	control class = iota
	letter
	digit
	blank
	mark
	hole
)

// classes are those of the runes below 128; the ones not listed are control runes.
var classes = [128]class{
	' ': blank,
	'!': mark, '"': mark, '#': mark, '$': mark, '%': mark, '&': mark, '\'': mark, '(': mark,
	')': mark, '*': mark, '+': mark, ',': mark, '-': mark, '.': mark, '/': mark, ':': mark,
	';': mark, '<': mark, '=': mark, '>': mark, '?': mark, '@': mark, '[': mark, '\\': mark,
	']': mark, '^': mark, '_': mark, '`': mark, '{': mark, '|': mark, '}': mark, '~': mark,
	'0': digit, '1': digit, '2': digit, '3': digit, '4': digit, '5': digit, '6': digit, '7': digit,
	'8': digit, '9': digit,
	'A': letter, 'B': letter, 'C': letter, 'D': letter, 'E': letter, 'F': letter, 'G': letter,
	'H': letter, 'I': letter, 'J': letter, 'K': letter, 'L': letter, 'M': letter, 'N': letter,
	'O': letter, 'P': letter, 'Q': letter, 'R': letter, 'S': letter, 'T': letter, 'U': letter,
	'V': letter, 'W': letter, 'X': letter, 'Y': letter, 'Z': letter,
	'a': letter, 'b': letter, 'c': letter, 'd': letter, 'e': letter, 'f': letter, 'g': letter,
	'h': letter, 'i': letter, 'j': letter, 'k': letter, 'l': letter, 'm': letter, 'n': letter,
	'o': letter, 'p': letter, 'q': letter, 'r': letter, 's': letter, 't': letter, 'u': letter,
	'v': letter, 'w': letter, 'x': letter, 'y': letter, 'z': letter,
}

func classOf(r rune) class {
	if r > 127 {
		return letter
	}
	return classes[r]
}

// unit is a rune of a text, or a hole, whose rune is 0.
type unit struct {
	class class
	rune  rune
}

func (u unit) inWord() bool { return u.class == letter || u.class == digit || u.class == hole }

// steps yields each unit and each tag of a list as a piece of its own, with the place at which it stands: of a unit the one ahead of it.
func steps(l []api.Piece) iter.Seq2[int, api.Piece] {
	return func(yield func(int, api.Piece) bool) {
		place := 0
		for _, p := range l {
			for text := p.Text; p.Kind == api.PiText && text != ""; place++ {
				_, n := utf8.DecodeRuneInString(text)
				if !yield(place, api.Piece{Kind: api.PiText, Text: text[:n]}) {
					return
				}
				text = text[n:]
			}
			if p.Kind != api.PiText && !yield(place, p) {
				return
			}
			if p.Kind == api.PiHole {
				place++
			}
		}
	}
}

// units yields each unit of a list, with the place ahead of it.
func units(l []api.Piece) iter.Seq2[int, unit] {
	return func(yield func(int, unit) bool) {
		for place, p := range steps(l) {
			if isTag(p) {
				continue
			}
			u := unit{class: hole}
			if p.Kind == api.PiText {
				r, _ := utf8.DecodeRuneInString(p.Text)
				u = unit{classOf(r), r}
			}
			if !yield(place, u) {
				return
			}
		}
	}
}

// Units returns the number of units of a list.
func Units(l []api.Piece) (int, api.Errno) {
	if e := CheckPieces(l); e != api.OK {
		return 0, e
	}
	n := 0
	for range units(l) {
		n++
	}
	return n, api.OK
}

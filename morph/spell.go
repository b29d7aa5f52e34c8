package morph

import (
	"strings"

	"truchman/api"
)

// maxSymbols bounds the strings that spelling rules are applied to, and what becomes of them.
const maxSymbols = 512

// border is the symbol of both ends of a string.
const border = '#'

// isPlain reports whether b may stand in a string to which spelling rules are applied.
func isPlain(b byte) bool { return isLetter(b) || b == '+' }

// isSymbol reports whether b may stand in a Left or a Right.
func isSymbol(b byte) bool { return isPlain(b) || b == border || b == 'V' || b == 'C' }

// Spell applies a spelling rule to a string.
func Spell(l api.Lexicon, rule int, s string) (string, api.Errno) {
	if e := Check(l); e != api.OK {
		return "", e
	}
	if rule < 0 || rule >= len(l.Spells) {
		return "", api.ErrNone
	}
	if !allAre(s, isPlain) {
		return "", api.ErrArg
	}
	out, ok := respell(l.Spells[rule], l.Vowels, s)
	if !ok {
		return "", api.ErrLimit
	}
	return out, api.OK
}

// respell returns what a spelling rule makes of s; false if one of both has too many symbols.
func respell(r api.Spell, vowels, s string) (string, bool) {
	if len(s) > maxSymbols {
		return "", false
	}
	var out []byte
	for at := 0; at < len(s); {
		if applies(r, vowels, s, at) {
			out = append(out, r.To...)
			at += len(r.From)
		} else {
			out = append(out, s[at])
			at++
		}
	}
	if len(out) > maxSymbols {
		return "", false
	}
	return string(out), true
}

// applies reports whether a spelling rule is applied at a place of s.
func applies(r api.Spell, vowels, s string, at int) bool {
	if !strings.HasPrefix(s[at:], r.From) {
		return false
	}
	for i := range len(r.Left) {
		if !matches(r.Left[len(r.Left)-1-i], vowels, symbolAt(s, at-1-i)) {
			return false
		}
	}
	for i := range len(r.Right) {
		if !matches(r.Right[i], vowels, symbolAt(s, at+len(r.From)+i)) {
			return false
		}
	}
	return true
}

// symbolAt returns the symbol at a place of s and its ends; 0, which nothing matches, beyond these.
func symbolAt(s string, at int) byte {
	if at == -1 || at == len(s) {
		return border
	}
	if at < 0 || at > len(s) {
		return 0
	}
	return s[at]
}

// matches reports whether a symbol of a Left or a Right matches what is found in a string.
func matches(symbol byte, vowels string, found byte) bool {
	wanted := strings.IndexByte(vowels, found) >= 0
	switch symbol {
	case 'C':
		wanted = !wanted
		fallthrough
	case 'V':
		return wanted && isLetter(found)
	}
	return symbol == found
}

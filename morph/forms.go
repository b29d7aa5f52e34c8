package morph

import (
	"slices"
	"strings"

	"truchman/api"
)

// Of the functions here, those that are not exported want a lexicon that is valid.

// place returns an entry and a slot of its class by their numbers; false if there is no such entry, or slot.
func place(l api.Lexicon, entry, slot int) (n api.Entry, s api.Slot, ok bool) {
	if entry < 0 || entry >= len(l.Entries) {
		return n, s, false
	}
	slots := slotsOf(l, entry)
	if slot < 0 || slot >= len(slots) {
		return n, s, false
	}
	return l.Entries[entry], slots[slot], true
}

// slotsOf returns the slots of the class of an entry.
func slotsOf(l api.Lexicon, entry int) []api.Slot {
	return l.Classes[classOf(l.Classes, l.Entries[entry].Class)].Slots
}

// Feats returns the bundle of an entry's slot.
func Feats(l api.Lexicon, entry, slot int) ([]api.Feat, api.Errno) {
	if e := Check(l); e != api.OK {
		return nil, e
	}
	n, s, ok := place(l, entry, slot)
	if !ok {
		return nil, api.ErrNone
	}
	return feats(n, s), api.OK
}

// feats returns the bundle of a slot of an entry. Both unify in a valid lexicon.
func feats(n api.Entry, s api.Slot) []api.Feat {
	b, _ := Unify(n.Feats, s.Feats)
	return b
}

// Steps returns the underlying form of an entry at a slot, and what each spelling rule makes of the one before it.
func Steps(l api.Lexicon, entry, slot int) ([]string, api.Errno) {
	if e := Check(l); e != api.OK {
		return nil, e
	}
	n, s, ok := place(l, entry, slot)
	if !ok {
		return nil, api.ErrNone
	}
	out, ok := steps(l, n, s)
	if !ok {
		return nil, api.ErrNone
	}
	return out, api.OK
}

func steps(l api.Lexicon, n api.Entry, s api.Slot) ([]string, bool) {
	if len(n.Lemma) < s.Cut {
		return nil, false
	}
	out := []string{underlying(n.Lemma, s)}
	for i, r := range l.Spells {
		next, ok := respell(r, l.Vowels, out[i])
		if !ok {
			return nil, false
		}
		out = append(out, next)
	}
	return out, true
}

// underlying returns the underlying form of a lemma that has at least Cut letters.
func underlying(lemma string, s api.Slot) string {
	out := lemma[:len(lemma)-s.Cut]
	if s.Pre != "" {
		out = s.Pre + "+" + out
	}
	if s.Add != "" {
		out += "+" + s.Add
	}
	return out
}

// Form returns the form of an entry at a slot.
func Form(l api.Lexicon, entry, slot int) (string, api.Errno) {
	if e := Check(l); e != api.OK {
		return "", e
	}
	word, ok := formAt(l, entry, slot)
	if !ok {
		return "", api.ErrNone
	}
	return word, api.OK
}

// formAt returns the form of an entry at a slot; false if there is none.
func formAt(l api.Lexicon, entry, slot int) (string, bool) {
	n, s, ok := place(l, entry, slot)
	if !ok {
		return "", false
	}
	if i := irregularOf(n.Forms, slot); i >= 0 {
		return n.Forms[i].Word, n.Forms[i].Word != ""
	}
	out, ok := steps(l, n, s)
	if !ok {
		return "", false
	}
	word := strings.ReplaceAll(out[len(out)-1], "+", "")
	if !Plain(word) {
		return "", false
	}
	return word, true
}

// Forms returns the forms of an entry, slot by slot; an empty string where there is none.
func Forms(l api.Lexicon, entry int) ([]string, api.Errno) {
	if e := Check(l); e != api.OK {
		return nil, e
	}
	if entry < 0 || entry >= len(l.Entries) {
		return nil, api.ErrNone
	}
	var out []string
	for slot := range slotsOf(l, entry) {
		word, _ := formAt(l, entry, slot)
		out = append(out, word)
	}
	return out, api.OK
}

// Find returns the number of the entry with a lemma and a class.
func Find(l api.Lexicon, lemma, class string) (int, api.Errno) {
	if e := Check(l); e != api.OK {
		return 0, e
	}
	n := find(l.Entries, lemma, class)
	if n < 0 {
		return 0, api.ErrNone
	}
	return n, api.OK
}

// find returns the number of the entry with a lemma and a class, or -1.
func find(entries []api.Entry, lemma, class string) int {
	return slices.IndexFunc(entries, func(n api.Entry) bool { return n.Lemma == lemma && n.Class == class })
}

// Generate returns the forms of a lemma whose bundles have all of feats.
func Generate(l api.Lexicon, lemma string, feats []api.Feat) ([]string, api.Errno) {
	if e := Bundle(l, feats); e != api.OK {
		return nil, e
	}
	known := false
	var out []string
	for i, n := range l.Entries {
		if n.Lemma != lemma {
			continue
		}
		known = true
		for _, word := range formsWith(l, i, feats) {
			if !slices.Contains(out, word) {
				out = append(out, word)
			}
		}
	}
	if !known {
		return nil, api.ErrNone
	}
	return out, api.OK
}

// formsWith returns the forms of an entry at the slots whose bundles have all of b.
func formsWith(l api.Lexicon, entry int, b []api.Feat) []string {
	var out []string
	for slot, s := range slotsOf(l, entry) {
		if !Subsumes(b, feats(l.Entries[entry], s)) {
			continue
		}
		if word, ok := formAt(l, entry, slot); ok {
			out = append(out, word)
		}
	}
	return out
}

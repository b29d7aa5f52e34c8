package morph

import (
	"slices"

	"truchman/api"
)

// Check returns the first error of a lexicon.
func Check(l api.Lexicon) api.Errno {
	parts := [...]func(api.Lexicon) api.Errno{
		checkVowels, checkTraits, checkClasses, checkEntries, checkSpells, checkLinks,
	}
	for _, check := range parts {
		if e := check(l); e != api.OK {
			return e
		}
	}
	return api.OK
}

func checkVowels(l api.Lexicon) api.Errno {
	for i := range len(l.Vowels) {
		if !isLetter(l.Vowels[i]) || i > 0 && l.Vowels[i-1] >= l.Vowels[i] {
			return api.ErrArg
		}
	}
	return api.OK
}

func checkTraits(l api.Lexicon) api.Errno {
	if len(l.Traits) > api.MaxTraits {
		return api.ErrLimit
	}
	for i, t := range l.Traits {
		if !Name(t.Name) {
			return api.ErrName
		}
		if traitOf(l.Traits[:i], t.Name) >= 0 {
			return api.ErrTwice
		}
		if e := checkValues(t.Values); e != api.OK {
			return e
		}
	}
	return api.OK
}

func checkValues(values []string) api.Errno {
	if len(values) > api.MaxValues {
		return api.ErrLimit
	}
	if len(values) == 0 {
		return api.ErrArg
	}
	for i, v := range values {
		if !Name(v) {
			return api.ErrName
		}
		if slices.Contains(values[:i], v) {
			return api.ErrTwice
		}
	}
	return api.OK
}

func checkClasses(l api.Lexicon) api.Errno {
	if len(l.Classes) > api.MaxClasses {
		return api.ErrLimit
	}
	for i, c := range l.Classes {
		if !Name(c.Name) {
			return api.ErrName
		}
		if classOf(l.Classes[:i], c.Name) >= 0 {
			return api.ErrTwice
		}
		if len(c.Slots) > api.MaxSlots {
			return api.ErrLimit
		}
		if len(c.Slots) == 0 {
			return api.ErrArg
		}
		for _, s := range c.Slots {
			if e := checkSlot(l.Traits, s); e != api.OK {
				return e
			}
		}
	}
	return api.OK
}

func checkSlot(traits []api.Trait, s api.Slot) api.Errno {
	if s.Cut < 0 || s.Cut > api.MaxWord || !isPattern(s.Pre, isLetter) || !isPattern(s.Add, isLetter) {
		return api.ErrArg
	}
	return checkBundle(traits, s.Feats)
}

// isPattern reports whether s has at most MaxPattern symbols, each of a kind.
func isPattern(s string, kind func(byte) bool) bool {
	return len(s) <= api.MaxPattern && allAre(s, kind)
}

// classOf returns the number of the class with a name, or -1.
func classOf(classes []api.Class, name string) int {
	return slices.IndexFunc(classes, func(c api.Class) bool { return c.Name == name })
}

func checkEntries(l api.Lexicon) api.Errno {
	if len(l.Entries) > api.MaxEntries {
		return api.ErrLimit
	}
	for i, n := range l.Entries {
		if !Plain(n.Lemma) {
			return api.ErrArg
		}
		class := classOf(l.Classes, n.Class)
		if class < 0 {
			return api.ErrName
		}
		if find(l.Entries[:i], n.Lemma, n.Class) >= 0 {
			return api.ErrTwice
		}
		if e := checkBundle(l.Traits, n.Feats); e != api.OK {
			return e
		}
		slots := l.Classes[class].Slots
		if contradict(n.Feats, slots) {
			return api.ErrClash
		}
		if e := checkIrregulars(n.Forms, len(slots)); e != api.OK {
			return e
		}
	}
	return api.OK
}

// contradict reports whether a feature has another value in some slot.
func contradict(b []api.Feat, slots []api.Slot) bool {
	return slices.ContainsFunc(slots, func(s api.Slot) bool {
		_, ok := Unify(b, s.Feats)
		return !ok
	})
}

func checkIrregulars(forms []api.Irregular, slots int) api.Errno {
	for i, f := range forms {
		if f.Slot < 0 || f.Slot >= slots {
			return api.ErrNone
		}
		if irregularOf(forms[:i], f.Slot) >= 0 {
			return api.ErrTwice
		}
		if f.Word != "" && !Plain(f.Word) {
			return api.ErrArg
		}
	}
	return api.OK
}

// irregularOf returns the number of the irregular form for a slot, or -1.
func irregularOf(forms []api.Irregular, slot int) int {
	return slices.IndexFunc(forms, func(f api.Irregular) bool { return f.Slot == slot })
}

func checkSpells(l api.Lexicon) api.Errno {
	if len(l.Spells) > api.MaxSpells {
		return api.ErrLimit
	}
	for _, r := range l.Spells {
		made := isPattern(r.From, isPlain) && isPattern(r.To, isPlain)
		if r.From == "" || !made || !isPattern(r.Left, isSymbol) || !isPattern(r.Right, isSymbol) {
			return api.ErrArg
		}
	}
	return api.OK
}

func checkLinks(l api.Lexicon) api.Errno {
	if len(l.Links) > api.MaxGlues {
		return api.ErrLimit
	}
	for _, k := range l.Links {
		if classOf(l.Classes, k.Class) < 0 {
			return api.ErrName
		}
		if !isPattern(k.Glue, isLetter) {
			return api.ErrArg
		}
		if e := checkBundle(l.Traits, k.Feats); e != api.OK {
			return e
		}
	}
	return api.OK
}

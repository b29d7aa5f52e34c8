package morph_test

import (
	"slices"
	"strconv"
	"strings"
	"testing"

	"truchman/api"
	"truchman/morph"
)

// sound is a valid lexicon with two of everything.
func sound() api.Lexicon {
	return api.Lexicon{
		Vowels: "aei",
		Traits: []api.Trait{{Name: "case", Values: []string{"nom", "acc"}}, {Name: "num", Values: []string{"sg", "pl"}}},
		Classes: []api.Class{
			{Name: "noun", Slots: []api.Slot{{Feats: b("num=sg")}, {Add: "s", Feats: b("case=acc num=pl")}}},
			{Name: "verb", Slots: []api.Slot{{Cut: 1}, {Pre: "re", Feats: b("num=pl")}}},
		},
		Entries: []api.Entry{
			{Lemma: "dog", Class: "noun"},
			{Lemma: "see", Class: "verb", Feats: b("case=nom"), Forms: []api.Irregular{{Slot: 1, Word: "saw"}, {Slot: 0}}},
		},
		Spells: []api.Spell{{From: "a"}, {From: "b+", To: "+c", Left: "#V+", Right: "C+#"}},
		Links:  []api.Link{{Class: "noun"}, {Class: "verb", Glue: "s", Feats: b("num=pl")}},
	}
}

// fault is something that makes a sound lexicon invalid.
type fault struct {
	name  string
	e     api.Errno
	spoil func(l *api.Lexicon)
}

// pad puts copies behind a list, each made by its number, until it has n elements.
func pad[T any](l []T, n int, one func(i int) T) []T {
	for len(l) < n {
		l = append(l, one(len(l)))
	}
	return l
}

func numbered(i int) string { return "x" + strconv.Itoa(i) }

// bundleFaults are the errors of a bundle, in their order.
func bundleFaults(where string, of func(l *api.Lexicon) *[]api.Feat) []fault {
	bundle := func(name string, e api.Errno, s string) fault {
		return fault{where + ": " + name, e, func(l *api.Lexicon) { *of(l) = b(s) }}
	}
	return []fault{
		bundle("too many features", api.ErrLimit, strings.Repeat("num=pl ", 9)),
		bundle("no such trait", api.ErrName, "mood=ind"),
		bundle("no such value", api.ErrArg, "case=pl"),
		bundle("no such value, and twice", api.ErrArg, "num=pl num=nom"),
		bundle("a feature twice", api.ErrTwice, "num=pl num=pl"),
		bundle("not increasing", api.ErrArg, "num=pl case=acc"),
		bundle("not increasing, but no such trait", api.ErrName, "num=pl aspect=acc"),
	}
}

// faults are all errors of a lexicon, in the order of the document, at the second element of each list.
func faults() []fault {
	list := []fault{
		{"a vowel that is no letter", api.ErrArg, func(l *api.Lexicon) { l.Vowels = "Aae" }},
		{"vowels that are not increasing", api.ErrArg, func(l *api.Lexicon) { l.Vowels = "aie" }},
		{"a vowel twice", api.ErrArg, func(l *api.Lexicon) { l.Vowels = "aae" }},
		{"too many traits", api.ErrLimit, func(l *api.Lexicon) {
			l.Traits = pad(l.Traits, 9, func(i int) api.Trait { return api.Trait{Name: numbered(i), Values: []string{"v"}} })
		}},
		{"a trait without a name", api.ErrName, func(l *api.Lexicon) { l.Traits[1].Name = "" }},
		{"a trait whose name is none", api.ErrName, func(l *api.Lexicon) { l.Traits[1].Name = "1st" }},
		{"a trait twice", api.ErrTwice, func(l *api.Lexicon) { l.Traits[1].Name = "case" }},
		{"too many values", api.ErrLimit, func(l *api.Lexicon) { l.Traits[1].Values = pad(l.Traits[1].Values, 9, numbered) }},
		{"no values", api.ErrArg, func(l *api.Lexicon) { l.Traits[1].Values = nil }},
		{"a value that is no name", api.ErrName, func(l *api.Lexicon) { l.Traits[1].Values = []string{"sg", "p-l"} }},
		{"a value twice", api.ErrTwice, func(l *api.Lexicon) { l.Traits[1].Values = []string{"sg", "pl", "sg"} }},
		{"too many classes", api.ErrLimit, func(l *api.Lexicon) {
			l.Classes = pad(l.Classes, 17, func(i int) api.Class { return api.Class{Name: numbered(i), Slots: []api.Slot{{}}} })
		}},
		{"a class without a name", api.ErrName, func(l *api.Lexicon) { l.Classes[1].Name = "" }},
		{"a class twice", api.ErrTwice, func(l *api.Lexicon) { l.Classes[1].Name = "noun" }},
		{"too many slots", api.ErrLimit, func(l *api.Lexicon) {
			l.Classes[1].Slots = pad(l.Classes[1].Slots, 25, func(int) api.Slot { return api.Slot{} })
		}},
		{"no slots", api.ErrArg, func(l *api.Lexicon) { l.Classes[1].Slots = nil }},
	}
	slot := func(l *api.Lexicon) *api.Slot {
		l.Classes[1].Slots = pad(l.Classes[1].Slots, 2, func(int) api.Slot { return api.Slot{} })
		return &l.Classes[1].Slots[1]
	}
	list = append(list,
		fault{"a Cut below 0", api.ErrArg, func(l *api.Lexicon) { slot(l).Cut = -1 }},
		fault{"a Cut above the length of words", api.ErrArg, func(l *api.Lexicon) { slot(l).Cut = 25 }},
		fault{"a Pre not of letters", api.ErrArg, func(l *api.Lexicon) { slot(l).Pre = "a+" }},
		fault{"a long Pre", api.ErrArg, func(l *api.Lexicon) { slot(l).Pre = "abcdefg" }},
		fault{"an Add not of letters", api.ErrArg, func(l *api.Lexicon) { slot(l).Add = "S" }},
		fault{"a long Add", api.ErrArg, func(l *api.Lexicon) { slot(l).Add = "abcdefg" }},
	)
	list = append(list, bundleFaults("a slot", func(l *api.Lexicon) *[]api.Feat { return &slot(l).Feats })...)
	list = append(list, entryFaults()...)
	return append(list, lastFaults()...)
}

func entryFaults() []fault {
	second := func(l *api.Lexicon) *api.Entry { return &l.Entries[1] }
	list := []fault{
		{"too many entries", api.ErrLimit, func(l *api.Lexicon) {
			l.Entries = pad(l.Entries, 129, func(i int) api.Entry {
				return api.Entry{Lemma: "x" + strings.Repeat("y", i%12) + strings.Repeat("z", i/12), Class: "noun"}
			})
		}},
		{"an empty lemma", api.ErrArg, func(l *api.Lexicon) { second(l).Lemma = "" }},
		{"a lemma that is no plain word", api.ErrArg, func(l *api.Lexicon) { second(l).Lemma = "see1" }},
		{"a long lemma", api.ErrArg, func(l *api.Lexicon) { second(l).Lemma = strings.Repeat("a", 25) }},
		{"no such class", api.ErrName, func(l *api.Lexicon) { second(l).Class = "adverb" }},
		{"an entry twice", api.ErrTwice, func(l *api.Lexicon) { second(l).Lemma, second(l).Class = "dog", "noun" }},
	}
	list = append(list, bundleFaults("an entry", func(l *api.Lexicon) *[]api.Feat { return &second(l).Feats })...)
	forms := func(name string, e api.Errno, x ...api.Irregular) fault {
		return fault{name, e, func(l *api.Lexicon) { second(l).Forms = x }}
	}
	return append(list,
		fault{"another value than a slot", api.ErrClash, func(l *api.Lexicon) { second(l).Feats = b("case=nom num=sg") }},
		forms("an irregular form of a slot below 0", api.ErrNone, api.Irregular{Slot: -1, Word: "1"}),
		forms("an irregular form of no slot", api.ErrNone, api.Irregular{Slot: 2, Word: "1"}),
		forms("a slot twice", api.ErrTwice, api.Irregular{Slot: 1, Word: "saw"}, api.Irregular{Slot: 1, Word: "1"}),
		forms("an irregular form that is no plain word", api.ErrArg, api.Irregular{Slot: 1, Word: "saw"}, api.Irregular{Slot: 0, Word: "1"}),
		forms("a long irregular form", api.ErrArg, api.Irregular{Slot: 1, Word: strings.Repeat("a", 25)}),
	)
}

func lastFaults() []fault {
	list := []fault{
		{"too many spelling rules", api.ErrLimit, func(l *api.Lexicon) {
			l.Spells = pad(l.Spells, 17, func(int) api.Spell { return api.Spell{From: "a"} })
		}},
	}
	for _, r := range []api.Spell{
		{From: ""}, {From: "A"}, {From: "V"}, {From: "#"}, {From: "abcdefg"},
		{From: "a", To: "1"}, {From: "a", To: "C"}, {From: "a", To: "#"}, {From: "a", To: "+++++++"},
		{From: "a", Left: "-"}, {From: "a", Left: "A"}, {From: "a", Left: "CCCCCCC"},
		{From: "a", Right: "é"}, {From: "a", Right: "D"}, {From: "a", Right: "VVVVVVV"},
	} {
		list = append(list, fault{"the spelling rule " + strings.Join([]string{r.From, r.To, r.Left, r.Right}, "/"), api.ErrArg, func(l *api.Lexicon) { l.Spells[1] = r }})
	}
	list = append(list,
		fault{"too many links", api.ErrLimit, func(l *api.Lexicon) {
			l.Links = pad(l.Links, 9, func(int) api.Link { return api.Link{Class: "noun"} })
		}},
		fault{"a link of no class", api.ErrName, func(l *api.Lexicon) { l.Links[1].Class = "" }},
		fault{"a glue not of letters", api.ErrArg, func(l *api.Lexicon) { l.Links[1].Glue = "+" }},
		fault{"a long glue", api.ErrArg, func(l *api.Lexicon) { l.Links[1].Glue = "abcdefg" }},
	)
	return append(list, bundleFaults("a link", func(l *api.Lexicon) *[]api.Feat { return &l.Links[1].Feats })...)
}

// P2.2: each error by itself.
func TestFaults(t *testing.T) {
	accepted(t, sound())
	accepted(t, given())
	accepted(t, api.Lexicon{})
	for _, f := range faults() {
		l := sound()
		f.spoil(&l)
		if e := morph.Check(l); e != f.e {
			t.Errorf("%s: error %d, want %d", f.name, e, f.e)
		}
		if e := morph.Bundle(l, b("mood=ind")); e != f.e {
			t.Errorf("Bundle, %s: error %d, want %d", f.name, e, f.e)
		}
	}
}

// P2.2 and R1: of two errors the one that the document names first.
func TestFaultsInOrder(t *testing.T) {
	all := faults()
	for i, first := range all {
		for _, later := range all[i+1:] {
			l := sound()
			later.spoil(&l)
			first.spoil(&l)
			if e := morph.Check(l); e != first.e {
				t.Errorf("%s, and %s: error %d, want %d", first.name, later.name, e, first.e)
			}
		}
	}
}

// P2.2: elements are examined one by one: an error of the first one comes before one of the second.
func TestElementsInOrder(t *testing.T) {
	for _, x := range []struct {
		name  string
		e     api.Errno
		spoil func(l *api.Lexicon)
	}{
		{"traits", api.ErrArg, func(l *api.Lexicon) { l.Traits[0].Values, l.Traits[1].Name = nil, "" }},
		{"values", api.ErrTwice, func(l *api.Lexicon) { l.Traits[0].Values = []string{"a", "a", ""} }},
		{"classes", api.ErrArg, func(l *api.Lexicon) { l.Classes[0].Slots, l.Classes[1].Name = nil, "" }},
		{"slots", api.ErrName, func(l *api.Lexicon) { l.Classes[0].Slots = []api.Slot{{Feats: b("x=y")}, {Cut: -1}} }},
		{"entries", api.ErrClash, func(l *api.Lexicon) { l.Entries[0].Feats, l.Entries[1].Lemma = b("num=sg"), "" }},
		{"forms", api.ErrArg, func(l *api.Lexicon) { l.Entries[0].Forms = []api.Irregular{{Word: "A"}, {Slot: 9}} }},
		{"links", api.ErrTwice, func(l *api.Lexicon) { l.Links[0].Feats, l.Links[1].Class = b("num=sg num=sg"), "" }},
	} {
		l := sound()
		x.spoil(&l)
		if e := morph.Check(l); e != x.e {
			t.Errorf("%s: error %d, want %d", x.name, e, x.e)
		}
	}
}

// widest is a lexicon that has as much as is allowed.
func widest() api.Lexicon {
	l := api.Lexicon{Vowels: "abcdefghijklmnopqrstuvwxyz"}
	var feats []api.Feat
	for i := range 8 {
		name := "abcdefghij_" + strconv.Itoa(i)
		l.Traits = append(l.Traits, api.Trait{Name: name, Values: pad(nil, 8, numbered)})
		feats = append(feats, api.Feat{Name: name, Value: "x7"})
	}
	for i := range 16 {
		slot := api.Slot{Cut: 24, Pre: "abcdef", Add: "ghijkl", Feats: slices.Clone(feats)}
		l.Classes = append(l.Classes, api.Class{Name: numbered(i), Slots: slices.Repeat([]api.Slot{slot}, 24)})
	}
	for i := range 128 {
		lemma := strings.Repeat("a", 22) + string(rune('a'+i/26)) + string(rune('a'+i%26))
		n := api.Entry{Lemma: lemma, Class: numbered(i % 16), Feats: slices.Clone(feats)}
		for slot := range 24 {
			n.Forms = append(n.Forms, api.Irregular{Slot: slot, Word: lemma})
		}
		l.Entries = append(l.Entries, n)
	}
	l.Spells = slices.Repeat([]api.Spell{{From: "abc+++", To: "+++abc", Left: "#VC+ab", Right: "ab+CV#"}}, 16)
	l.Links = slices.Repeat([]api.Link{{Class: "x15", Glue: "abcdef", Feats: feats}}, 8)
	return l
}

// P2.2: a limit is allowed itself.
func TestWidest(t *testing.T) {
	accepted(t, widest())
	if e := morph.Bundle(widest(), widest().Links[0].Feats); e != api.OK {
		t.Error(e)
	}
}

// P2.2: the same lemma in another class, and an entry with the value that a slot has.
func TestAllowed(t *testing.T) {
	l := sound()
	l.Entries[1].Lemma = "dog"
	l.Entries[1].Feats = b("num=pl")
	accepted(t, l)
	l = sound()
	l.Entries[1].Class = "noun"
	l.Entries[1].Feats = b("case=acc")
	accepted(t, l)
}

// P2.2: the errors of a bundle.
func TestBundle(t *testing.T) {
	for s, want := range map[string]api.Errno{
		"": api.OK, "num=sg": api.OK, "case=nom": api.OK, "case=acc num=pl": api.OK,
		"num=nom": api.ErrArg, "num=": api.ErrArg, "=sg": api.ErrName, "gender=f": api.ErrName, "Num=sg": api.ErrName,
		"num=sg num=sg": api.ErrTwice, "num=sg num=pl": api.ErrTwice, "num=sg case=nom": api.ErrArg,
		"num=sg num=nom": api.ErrArg, "num=sg case=nom num=sg": api.ErrArg,
		"case=nom num=sg gender=f": api.ErrName, "num=x gender=f": api.ErrArg,
		strings.Repeat("num=sg ", 8): api.ErrTwice, strings.Repeat("num=sg ", 9): api.ErrLimit, strings.Repeat("x=y ", 9): api.ErrLimit,
	} {
		if e := morph.Bundle(sound(), b(s)); e != want {
			t.Errorf("%q: error %d, want %d", s, e, want)
		}
	}
	if e := morph.Bundle(crooked(), b("x=y")); e != crookedIs {
		t.Error(e)
	}
}

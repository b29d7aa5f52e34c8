package morph_test

import (
	"slices"
	"strings"
	"testing"

	"truchman/api"
	"truchman/morph"
)

// b reads a bundle: "num=sg case=nom".
func b(s string) []api.Feat {
	var out []api.Feat
	for _, w := range strings.Fields(s) {
		name, value, _ := strings.Cut(w, "=")
		out = append(out, api.Feat{Name: name, Value: value})
	}
	return out
}

// given is the lexicon L of the chapter.
func given() api.Lexicon {
	return api.Lexicon{
		Vowels: "aeiou",
		Traits: []api.Trait{{Name: "num", Values: []string{"sg", "pl"}}},
		Classes: []api.Class{
			{Name: "noun", Slots: []api.Slot{{Feats: b("num=sg")}, {Add: "s", Feats: b("num=pl")}}},
			{Name: "verb", Slots: []api.Slot{{}, {Add: "ed"}}},
		},
		Entries: []api.Entry{
			{Lemma: "city", Class: "noun"},
			{Lemma: "car", Class: "noun"},
			{Lemma: "bus", Class: "noun", Forms: []api.Irregular{{Slot: 1, Word: "buses"}}},
			{Lemma: "plan", Class: "verb"},
		},
		Spells: []api.Spell{{From: "y+", To: "i+e", Left: "C", Right: "s"}, {From: "n+", To: "nn+", Left: "V", Right: "ed"}},
		Links:  []api.Link{{Class: "noun", Feats: b("num=sg")}},
	}
}

// givenText is the text of L.
const givenText = `vowels aeiou
trait num sg pl
class noun
slot 0 - - num=sg
slot 0 - s num=pl
class verb
slot 0 - -
slot 0 - ed
entry city noun
entry car noun
entry bus noun
form 1 buses
entry plan verb
spell y+ i+e C s
spell n+ nn+ V ed
link noun - num=sg
`

// Numbers of the entries of L.
const (
	city = iota
	car
	bus
	plan
)

// crooked is a lexicon with an error, which all functions pass on.
func crooked() api.Lexicon {
	l := given()
	l.Links[0].Glue = "-"
	return l
}

// crookedIs is the error of that lexicon.
const crookedIs = api.ErrArg

// simple is a lexicon with one class, n, with slots, and the lemmas.
func simple(slots []api.Slot, lemmas ...string) api.Lexicon {
	l := api.Lexicon{Vowels: "aeiou", Classes: []api.Class{{Name: "n", Slots: slots}}}
	for _, s := range lemmas {
		l.Entries = append(l.Entries, api.Entry{Lemma: s, Class: "n"})
	}
	return l
}

func accepted(t *testing.T, l api.Lexicon) {
	t.Helper()
	if e := morph.Check(l); e != api.OK {
		t.Fatalf("Check(%v): error %d", l, e)
	}
}

func analyzer(t *testing.T, l api.Lexicon) *morph.Analyzer {
	t.Helper()
	a, e := morph.New(l)
	if a == nil || e != api.OK {
		t.Fatalf("New(%v): %v, error %d", l, a, e)
	}
	return a
}

func sameAnalysis(x, y api.Analysis) bool {
	return slices.Equal(x.Firsts, y.Firsts) && x.Entry == y.Entry && x.Slot == y.Slot
}

func sameAnalyses(x, y []api.Analysis) bool { return slices.EqualFunc(x, y, sameAnalysis) }

func sameTrait(x, y api.Trait) bool { return x.Name == y.Name && slices.Equal(x.Values, y.Values) }

func sameSlot(x, y api.Slot) bool {
	return x.Cut == y.Cut && x.Pre == y.Pre && x.Add == y.Add && slices.Equal(x.Feats, y.Feats)
}

func sameClass(x, y api.Class) bool {
	return x.Name == y.Name && slices.EqualFunc(x.Slots, y.Slots, sameSlot)
}

func sameEntry(x, y api.Entry) bool {
	return x.Lemma == y.Lemma && x.Class == y.Class && slices.Equal(x.Feats, y.Feats) && slices.Equal(x.Forms, y.Forms)
}

func sameLink(x, y api.Link) bool {
	return x.Class == y.Class && x.Glue == y.Glue && slices.Equal(x.Feats, y.Feats)
}

// same reports whether lexicons are equal; nil and empty lists are.
func same(x, y api.Lexicon) bool {
	return x.Vowels == y.Vowels && slices.EqualFunc(x.Traits, y.Traits, sameTrait) &&
		slices.EqualFunc(x.Classes, y.Classes, sameClass) && slices.EqualFunc(x.Entries, y.Entries, sameEntry) &&
		slices.Equal(x.Spells, y.Spells) && slices.EqualFunc(x.Links, y.Links, sameLink)
}

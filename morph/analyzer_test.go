package morph_test

import (
	"slices"
	"strings"
	"testing"

	"truchman/api"
	"truchman/morph"
)

// P2.8: the words of an analyzer.
func TestWords(t *testing.T) {
	for _, x := range []struct {
		l                api.Lexicon
		words, ambiguous string
	}{
		{given(), "bus buses car cars cities city plan planned", ""},
		{compounds(), "amt ort orten orts rot", ""},
		{several(), "talked talks walk walked walks", "walk walks"},
		{simple([]api.Slot{{}, {Cut: 1}, {Cut: 2}}, "ab", "abc", "z", "b"), "a ab abc b z", "a ab"},
		{simple([]api.Slot{{Cut: 1}}, "a"), "", ""},
		{api.Lexicon{}, "", ""},
	} {
		a := analyzer(t, x.l)
		if got := a.Words(); !slices.Equal(got, strings.Fields(x.words)) {
			t.Errorf("words %q, want %s", got, x.words)
		}
		if got := a.Ambiguous(); !slices.Equal(got, strings.Fields(x.ambiguous)) {
			t.Errorf("ambiguous %q, want %s", got, x.ambiguous)
		}
	}
}

// P2.8: what compounds are is no word that is told, and one of two slots makes a word ambiguous.
func TestAmbiguous(t *testing.T) {
	l := simple([]api.Slot{{}, {Add: "a"}}, "a", "aa")
	l.Links = []api.Link{{Class: "n"}}
	a := analyzer(t, l)
	if got := a.Words(); !slices.Equal(got, []string{"a", "aa", "aaa"}) {
		t.Error(got)
	}
	if got := a.Ambiguous(); !slices.Equal(got, []string{"aa"}) { // aaa is so by first parts alone
		t.Error(got)
	}
	l = simple([]api.Slot{{}, {}}, "x")
	if got := analyzer(t, l).Ambiguous(); !slices.Equal(got, []string{"x"}) { // two slots of one entry
		t.Error(got)
	}
}

// P2.8: the word after any string.
func TestAfter(t *testing.T) {
	a := analyzer(t, given())
	for _, x := range []struct{ s, want string }{
		{"", "bus"}, {"a", "bus"}, {"bu", "bus"}, {"bus", "buses"}, {"bus\x00", "buses"}, {"busa", "buses"}, {"buses", "car"}, {"busf", "car"},
		{"car", "cars"}, {"cars", "cities"}, {"citiez", "city"}, {"city", "plan"}, {"plan", "planned"}, {"plannec", "planned"},
		{"CITY", "bus"}, {"\x00", "bus"}, {strings.Repeat("c", 1000), "cities"},
	} {
		if got, ok := a.After(x.s); !ok || got != x.want {
			t.Errorf("After(%q): %q, %v", x.s, got, ok)
		}
	}
	for _, s := range []string{"planned", "planneda", "q", "\xff", "plano"} {
		if got, ok := a.After(s); ok || got != "" {
			t.Errorf("After(%q): %q, %v", s, got, ok)
		}
	}
	if got, ok := analyzer(t, api.Lexicon{}).After(""); ok || got != "" {
		t.Error(got, ok)
	}
}

// P2.8: After goes over all words.
func TestAfterEach(t *testing.T) {
	for _, l := range []api.Lexicon{given(), compounds(), several(), widest()} {
		a := analyzer(t, l)
		var got []string
		for word, ok := a.After(""); ok && len(got) <= len(a.Words()); word, ok = a.After(word) {
			got = append(got, word)
		}
		if !slices.Equal(got, a.Words()) {
			t.Errorf("%q, but words %q", got, a.Words())
		}
	}
}

// P2.8 and R3: analyzers that New did not return.
func TestNoAnalyzer(t *testing.T) {
	if a, e := morph.New(crooked()); a != nil || e != crookedIs {
		t.Error(a, e)
	}
	for _, a := range []*morph.Analyzer{nil, {}} {
		for _, word := range []string{"car", ""} {
			if got, e := a.Analyze(word); e != api.ErrNil || len(got) > 0 {
				t.Error(got, e)
			}
			if got, ok := a.After(word); ok || got != "" {
				t.Error(got, ok)
			}
		}
		if got := a.Words(); len(got) > 0 {
			t.Error(got)
		}
		if got := a.Ambiguous(); len(got) > 0 {
			t.Error(got)
		}
	}
}

// spoil changes whatever a lexicon has.
func spoil(l api.Lexicon) {
	for i := range l.Traits {
		l.Traits[i].Name = "spoiled"
		for j := range l.Traits[i].Values {
			l.Traits[i].Values[j] = "spoiled"
		}
	}
	feats := func(x []api.Feat) {
		for i := range x {
			x[i] = api.Feat{Name: "spoiled", Value: "spoiled"}
		}
	}
	for i := range l.Classes {
		for j := range l.Classes[i].Slots {
			feats(l.Classes[i].Slots[j].Feats)
			l.Classes[i].Slots[j] = api.Slot{Add: "spoil"}
		}
		l.Classes[i].Name = "spoiled"
	}
	for i := range l.Entries {
		feats(l.Entries[i].Feats)
		for j := range l.Entries[i].Forms {
			l.Entries[i].Forms[j].Word = "spoiled"
		}
		l.Entries[i].Lemma, l.Entries[i].Class = "spoiled", "spoiled"
	}
	for i := range l.Spells {
		l.Spells[i] = api.Spell{From: "spoil"}
	}
	for i := range l.Links {
		feats(l.Links[i].Feats)
		l.Links[i] = api.Link{Class: "spoiled", Glue: "spoil"}
	}
}

// R4: an analyzer does not look at a lexicon that has changed since, nor at results that have.
func TestAnalyzerKeepsNothing(t *testing.T) {
	l := compounds()
	a := analyzer(t, l)
	spoil(l)
	words := a.Words()
	for range 2 {
		for _, word := range []string{"ortsamt", "rotortsrot", "orts", "ortenxort"} {
			want, _ := morph.Analyze(compounds(), word)
			got, e := a.Analyze(word)
			if e != api.OK || !sameAnalyses(got, want) || len(want) == 0 {
				t.Errorf("%s: %v, error %d, want %v", word, got, e, want)
			}
			for i := range got {
				for j := range got[i].Firsts {
					got[i].Firsts[j] = api.First{Entry: 99}
				}
				got[i] = api.Analysis{Entry: 99}
			}
		}
		words[0] = "spoiled"
		if got := a.Words(); got[0] != "amt" {
			t.Error(got)
		}
	}
}

// R4: results share no memory with arguments, or with one another; no argument is changed.
func TestOwnMemory(t *testing.T) {
	x, y := b("case=nom"), b("num=sg")
	for _, pair := range [][2][]api.Feat{{x, nil}, {nil, y}, {x, y}} {
		got, _ := morph.Unify(pair[0], pair[1])
		for i := range got {
			got[i].Name = "spoiled"
		}
		if x[0].Name != "case" || y[0].Name != "num" {
			t.Fatal(pair)
		}
	}
	l := sound()
	for entry := range l.Entries {
		for slot := range 2 {
			got, _ := morph.Feats(l, entry, slot)
			for i := range got {
				got[i].Name = "spoiled"
			}
		}
	}
	if !same(l, sound()) {
		t.Error(l)
	}
	many := simple([]api.Slot{{}, {}}, "a")
	many.Links = []api.Link{{Class: "n"}}
	got, _ := morph.Analyze(many, "aaa")
	want, _ := morph.Analyze(many, "aaa")
	for i := range got {
		for j := range got[i].Firsts {
			got[i].Firsts[j].Entry += 100 * (i + 1)
			want[i].Firsts[j].Entry += 100 * (i + 1)
		}
	}
	if len(got) != 8 || !sameAnalyses(got, want) {
		t.Error(got)
	}
	for i, a := range got {
		for _, f := range a.Firsts {
			if f.Entry != 100*(i+1) {
				t.Fatal(got)
			}
		}
	}
}

// R10: objects do not influence one another.
func TestTwoAnalyzers(t *testing.T) {
	a, c := analyzer(t, given()), analyzer(t, compounds())
	if got, e := a.Analyze("ort"); e != api.OK || len(got) > 0 {
		t.Error(got, e)
	}
	if got, e := c.Analyze("ort"); e != api.OK || len(got) != 1 {
		t.Error(got, e)
	}
	if got := a.Words(); len(got) != 8 {
		t.Error(got)
	}
}

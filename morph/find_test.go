package morph_test

import (
	"slices"
	"strings"
	"testing"

	"truchman/api"
	"truchman/morph"
)

// P2.7: the entry with a lemma and a class.
func TestFind(t *testing.T) {
	l := given()
	l.Entries = append(l.Entries, api.Entry{Lemma: "plan", Class: "noun"})
	for _, x := range []struct {
		lemma, class string
		want         int
		e            api.Errno
	}{
		{"city", "noun", 0, api.OK}, {"bus", "noun", 2, api.OK}, {"plan", "verb", 3, api.OK}, {"plan", "noun", 4, api.OK},
		{"city", "verb", 0, api.ErrNone}, {"cities", "noun", 0, api.ErrNone}, {"plan", "", 0, api.ErrNone}, {"", "noun", 0, api.ErrNone},
		{"plan", "adverb", 0, api.ErrNone}, {"\xff", " ", 0, api.ErrNone},
	} {
		if got, e := morph.Find(l, x.lemma, x.class); e != x.e || got != x.want {
			t.Errorf("%s %s: %d, error %d", x.lemma, x.class, got, e)
		}
	}
	if got, e := morph.Find(crooked(), "plan", "verb"); e != crookedIs || got != 0 {
		t.Error(got, e)
	}
}

// several is a lexicon in which a lemma has several entries.
func several() api.Lexicon {
	return api.Lexicon{
		Traits: []api.Trait{{Name: "num", Values: []string{"sg", "pl"}}, {Name: "case", Values: []string{"nom", "gen"}}},
		Classes: []api.Class{
			{Name: "n", Slots: []api.Slot{{Add: "s", Feats: b("num=pl")}, {Feats: b("case=nom num=sg")}, {Add: "s", Feats: b("case=gen num=sg")}}},
			{Name: "v", Slots: []api.Slot{{Add: "ed"}, {Feats: b("num=pl")}, {Add: "s", Feats: b("num=sg")}}},
			{Name: "none", Slots: []api.Slot{{Cut: 9}}},
		},
		Entries: []api.Entry{
			{Lemma: "walk", Class: "v"},
			{Lemma: "talk", Class: "v", Feats: b("case=gen"), Forms: []api.Irregular{{Slot: 1}}},
			{Lemma: "walk", Class: "n"},
			{Lemma: "gone", Class: "none"},
		},
	}
}

// P2.7: the forms of a lemma that have features.
func TestGenerate(t *testing.T) {
	for _, x := range []struct{ lemma, feats, want string }{
		{"walk", "", "walked walk walks"},
		{"walk", "num=sg", "walks walk"},
		{"walk", "num=pl", "walk walks"},
		{"walk", "case=nom", "walk"},
		{"walk", "case=gen num=sg", "walks"},
		{"walk", "case=gen num=pl", ""},
		{"talk", "", "talked talks"},
		{"talk", "case=gen", "talked talks"}, // a feature of the entry
		{"talk", "num=pl", ""},               // there is no such form
		{"talk", "case=nom", ""},
		{"gone", "", ""},
	} {
		if got, e := morph.Generate(several(), x.lemma, b(x.feats)); e != api.OK || !slices.Equal(got, strings.Fields(x.want)) {
			t.Errorf("%s with %s: %q, error %d", x.lemma, x.feats, got, e)
		}
	}
	if got, e := morph.Generate(given(), "city", b("num=pl")); e != api.OK || !slices.Equal(got, []string{"cities"}) {
		t.Errorf("%q, error %d", got, e)
	}
}

// P2.7: the errors of Generate, in their order.
func TestGenerateErrors(t *testing.T) {
	for _, x := range []struct {
		l            api.Lexicon
		lemma, feats string
		e            api.Errno
	}{
		{crooked(), "none", "x=y", crookedIs},
		{several(), "none", "x=y", api.ErrName},
		{several(), "walk", "num=nom", api.ErrArg},
		{several(), "none", "num=sg num=sg", api.ErrTwice},
		{several(), "none", "num=sg case=nom", api.ErrArg},
		{several(), "none", strings.Repeat("num=sg ", 9), api.ErrLimit},
		{several(), "none", "", api.ErrNone},
		{several(), "walks", "num=sg", api.ErrNone},
		{several(), "", "", api.ErrNone},
	} {
		if got, e := morph.Generate(x.l, x.lemma, b(x.feats)); e != x.e || len(got) > 0 {
			t.Errorf("%s with %s: %q, error %d, want %d", x.lemma, x.feats, got, e, x.e)
		}
	}
}

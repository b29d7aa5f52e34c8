package morph_test

import (
	"slices"
	"strings"
	"testing"

	"truchman/api"
	"truchman/morph"
)

// compounds is a lexicon with links of several kinds.
func compounds() api.Lexicon {
	return api.Lexicon{
		Vowels: "aeiou",
		Traits: []api.Trait{{Name: "case", Values: []string{"nom", "gen"}}, {Name: "num", Values: []string{"sg", "pl"}}},
		Classes: []api.Class{
			{Name: "noun", Slots: []api.Slot{{Feats: b("num=sg")}, {Add: "en", Feats: b("num=pl")}}},
			{Name: "adj", Slots: []api.Slot{{}}},
		},
		Entries: []api.Entry{
			{Lemma: "ort", Class: "noun", Feats: b("case=nom")},
			{Lemma: "amt", Class: "noun", Forms: []api.Irregular{{Slot: 1}}},
			{Lemma: "rot", Class: "adj"},
			{Lemma: "orts", Class: "adj"},
		},
		Links: []api.Link{{Class: "noun", Glue: "s", Feats: b("num=sg")}, {Class: "noun"}, {Class: "adj"}, {Class: "noun", Glue: "x", Feats: b("case=nom num=pl")}},
	}
}

// Numbers of the entries of compounds.
const (
	ort = iota
	amt
	rot
	orts
)

// parts makes an analysis of entries and slots; the first parts also have links.
func parts(entry, slot int, firsts ...api.First) api.Analysis {
	return api.Analysis{Firsts: firsts, Entry: entry, Slot: slot}
}

// P2.6: the word of an analysis.
func TestBuild(t *testing.T) {
	big := 1<<63 - 1
	for _, x := range []struct {
		a    api.Analysis
		want string
		e    api.Errno
	}{
		{parts(ort, 0), "ort", api.OK},
		{parts(ort, 1), "orten", api.OK},
		{parts(amt, 0, api.First{Entry: ort, Slot: 0, Link: 0}), "ortsamt", api.OK},
		{parts(amt, 0, api.First{Entry: ort, Slot: 0, Link: 1}), "ortamt", api.OK},
		{parts(amt, 0, api.First{Entry: ort, Slot: 1, Link: 1}), "ortenamt", api.OK},
		{parts(rot, 0, api.First{Entry: ort, Slot: 1, Link: 3}), "ortenxrot", api.OK},
		{parts(ort, 1, api.First{Entry: rot, Slot: 0, Link: 2}, api.First{Entry: amt, Slot: 0, Link: 0}), "rotamtsorten", api.OK},
		{parts(ort, 0, api.First{Entry: ort, Slot: 0, Link: 0}, api.First{Entry: ort, Slot: 0, Link: 0}), "ortsortsort", api.OK},
		{parts(amt, 1), "", api.ErrNone},                                          // a form is missing
		{parts(ort, 0, api.First{Entry: amt, Slot: 1, Link: 1}), "", api.ErrNone}, // a form is missing
		{parts(ort, 0, api.First{Entry: rot, Slot: 0, Link: 0}), "", api.ErrNone}, // the class of the link
		{parts(ort, 0, api.First{Entry: ort, Slot: 0, Link: 2}), "", api.ErrNone},
		{parts(ort, 0, api.First{Entry: ort, Slot: 1, Link: 0}), "", api.ErrNone}, // the features of the link
		{parts(ort, 0, api.First{Entry: amt, Slot: 0, Link: 3}), "", api.ErrNone},
		{parts(4, 0), "", api.ErrNone}, {parts(-1, 0), "", api.ErrNone}, {parts(ort, 2), "", api.ErrNone}, {parts(ort, -1), "", api.ErrNone},
		{parts(big, big), "", api.ErrNone}, {parts(-big, -big), "", api.ErrNone},
		{parts(ort, 0, api.First{Entry: 4}), "", api.ErrNone}, {parts(ort, 0, api.First{Entry: -1}), "", api.ErrNone},
		{parts(ort, 0, api.First{Slot: 2}), "", api.ErrNone}, {parts(ort, 0, api.First{Slot: -1}), "", api.ErrNone},
		{parts(ort, 0, api.First{Link: 4}), "", api.ErrNone}, {parts(ort, 0, api.First{Link: -1}), "", api.ErrNone},
		{parts(ort, 0, api.First{Entry: ort}, api.First{Link: 9}), "", api.ErrNone},
		{parts(ort, 0, slices.Repeat([]api.First{{}}, 3)...), "", api.ErrLimit},
		{parts(-1, -1, slices.Repeat([]api.First{{Entry: -1, Slot: -1, Link: -1}}, 3)...), "", api.ErrLimit},
	} {
		if got, e := morph.Build(compounds(), x.a); e != x.e || got != x.want {
			t.Errorf("%v: %q, error %d, want %q, %d", x.a, got, e, x.want, x.e)
		}
		if got, e := morph.Build(crooked(), x.a); e != crookedIs || got != "" {
			t.Errorf("crooked, %v: %q, error %d", x.a, got, e)
		}
	}
}

// P2.6: a word has at most MaxWord letters, and so have those that are analyzed.
func TestLongCompounds(t *testing.T) {
	l := simple([]api.Slot{{}}, strings.Repeat("a", 10), strings.Repeat("b", 10), strings.Repeat("b", 11))
	l.Links = []api.Link{{Class: "n", Glue: "cccc"}}
	first := api.First{}
	if got, e := morph.Build(l, parts(1, 0, first)); e != api.OK || len(got) != 24 {
		t.Errorf("%q, error %d", got, e)
	}
	if got, e := morph.Build(l, parts(2, 0, first)); e != api.ErrNone || got != "" {
		t.Errorf("%q, error %d", got, e)
	}
	if got, e := morph.Build(l, parts(1, 0, first, first)); e != api.ErrNone || got != "" {
		t.Errorf("%q, error %d", got, e)
	}
	word := strings.Repeat("a", 10) + "cccc" + strings.Repeat("b", 10)
	if got, e := morph.Analyze(l, word); e != api.OK || !sameAnalyses(got, []api.Analysis{parts(1, 0, first)}) {
		t.Errorf("%v, error %d", got, e)
	}
}

// P2.6: the example of the chapter, words with other analyses, and words with none.
func TestAnalyze(t *testing.T) {
	sg := func(entry int) api.First { return api.First{Entry: entry} }
	for word, want := range map[string][]api.Analysis{
		"city":       {parts(city, 0)},
		"cities":     {parts(city, 1)},
		"citys":      nil,
		"bus":        {parts(bus, 0)},
		"buses":      {parts(bus, 1)},
		"buss":       nil,
		"planned":    {parts(plan, 1)},
		"carcity":    {parts(city, 0, sg(car))},
		"carcities":  {parts(city, 1, sg(car))},
		"carscity":   nil, // link 0 wants num=sg
		"plancar":    nil, // link 0 is for nouns
		"carbusplan": {parts(plan, 0, sg(car), sg(bus))},
		"busbusbus":  {parts(bus, 0, sg(bus), sg(bus))},
		"carcarcar":  {parts(car, 0, sg(car), sg(car))}, "carcarcarcar": nil,
		"ca": nil, "carc": nil, "a": nil, "City": nil, "car-city": nil, "car+s": nil, "!": nil, "~": nil,
	} {
		if got, e := morph.Analyze(given(), word); e != api.OK || !sameAnalyses(got, want) {
			t.Errorf("%s: %v, error %d, want %v", word, got, e, want)
		}
	}
}

// P2.6: what is no word is ErrArg, but the lexicon's error comes first.
func TestAnalyzeErrors(t *testing.T) {
	for _, word := range []string{"", " ", "car city", "é", "\x7f", "a\n", strings.Repeat("a", 25), strings.Repeat("a", 70000)} {
		if got, e := morph.Analyze(given(), word); e != api.ErrArg || len(got) > 0 {
			t.Errorf("%q: %v, error %d", word, got, e)
		}
		if got, e := morph.Analyze(crooked(), word); e != crookedIs || len(got) > 0 {
			t.Errorf("%q: %v, error %d", word, got, e)
		}
		if got, e := analyzer(t, given()).Analyze(word); e != api.ErrArg || len(got) > 0 {
			t.Errorf("%q: %v, error %d", word, got, e)
		}
	}
	if got, e := morph.Analyze(api.Lexicon{}, "a"); e != api.OK || len(got) > 0 {
		t.Error(got, e)
	}
	if got, e := morph.Analyze(given(), strings.Repeat("a", 24)); e != api.OK || len(got) > 0 {
		t.Error(got, e)
	}
}

// P2.6: analyses in order: fewer first parts, then first parts by Entry, Slot and Link, then Entry, then Slot.
func TestAnalyzeInOrder(t *testing.T) {
	// Everything is spelled a or aa: in class m at slot 0 a, in class n at the slots 0 and 1 a, and at 2 aa.
	l := simple([]api.Slot{{}, {}, {Add: "a"}}, "a")
	l.Classes = append(l.Classes, api.Class{Name: "m", Slots: []api.Slot{{}}})
	l.Entries = append(l.Entries, api.Entry{Lemma: "a", Class: "m"})
	l.Links = []api.Link{{Class: "n", Glue: "a"}, {Class: "m"}, {Class: "n"}, {Class: "m", Glue: "a"}}
	f := func(entry, slot, link int) api.First { return api.First{Entry: entry, Slot: slot, Link: link} }
	want := []api.Analysis{
		parts(0, 0), parts(0, 1), parts(1, 0),
	}
	if got, e := morph.Analyze(l, "a"); e != api.OK || !sameAnalyses(got, want) {
		t.Errorf("%v, error %d", got, e)
	}
	want = []api.Analysis{
		parts(0, 2),
		parts(0, 0, f(0, 0, 2)), parts(0, 1, f(0, 0, 2)), parts(1, 0, f(0, 0, 2)),
		parts(0, 0, f(0, 1, 2)), parts(0, 1, f(0, 1, 2)), parts(1, 0, f(0, 1, 2)),
		parts(0, 0, f(1, 0, 1)), parts(0, 1, f(1, 0, 1)), parts(1, 0, f(1, 0, 1)),
	}
	if got, e := morph.Analyze(l, "aa"); e != api.OK || !sameAnalyses(got, want) {
		t.Errorf("%v, error %d", got, e)
	}
	got, e := morph.Analyze(l, "aaa")
	if e != api.OK || len(got) != 42 {
		t.Fatalf("%d analyses, error %d", len(got), e)
	}
	for i, x := range map[int]api.Analysis{
		0:  parts(0, 0, f(0, 0, 0)),
		3:  parts(0, 2, f(0, 0, 2)), // the same first part, by another link
		4:  parts(0, 0, f(0, 1, 0)),
		8:  parts(0, 0, f(0, 2, 2)),
		11: parts(0, 2, f(1, 0, 1)),
		12: parts(0, 0, f(1, 0, 3)),
		15: parts(0, 0, f(0, 0, 2), f(0, 0, 2)),
		18: parts(0, 0, f(0, 0, 2), f(0, 1, 2)),
		41: parts(1, 0, f(1, 0, 1), f(1, 0, 1)),
	} {
		if !sameAnalysis(got[i], x) {
			t.Errorf("%d: %v, want %v", i, got[i], x)
		}
	}
	if !slices.IsSortedFunc(got, before) {
		t.Error(got)
	}
}

// before compares analyses as they are ordered.
func before(x, y api.Analysis) int {
	key := func(a api.Analysis) []int {
		k := []int{len(a.Firsts)}
		for _, f := range a.Firsts {
			k = append(k, f.Entry, f.Slot, f.Link)
		}
		return append(k, a.Entry, a.Slot)
	}
	return slices.Compare(key(x), key(y))
}

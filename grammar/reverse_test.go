package grammar_test

import (
	"testing"

	"truchman/api"
	"truchman/grammar"
)

// full is a lexicon that has all lists.
func full() api.Lexicon {
	l := lexicon(sourceText + "form 0 saw\nspell a b c V\nlink noun x num=sg\n")
	l.Entries[2].Feats = b("num=pl")
	return l
}

// spoil changes whatever stands in the lists of a full lexicon.
func spoil(l *api.Lexicon) {
	l.Traits[0].Values[0] = "xx"
	l.Traits[0].Name = "xx"
	l.Classes[0].Slots[0].Feats[0].Name = "xx"
	l.Classes[0].Slots[0].Cut = 9
	l.Classes[0].Name = "xx"
	l.Entries[2].Forms[0].Word = "xx"
	l.Entries[2].Feats[0].Name = "xx"
	l.Entries[0].Lemma = "xx"
	l.Spells[0].From = "xx"
	l.Links[0].Feats[0].Name = "xx"
	l.Links[0].Glue = "xx"
}

// P3.7: the system of the chapter with its sides exchanged.
func TestReverse(t *testing.T) {
	want := api.System{
		Source: lexicon(targetText), Target: lexicon(sourceText), Start: "S",
		Rules: []api.Rule{
			{Left: "S", Parts: []api.Part{{Cat: "NP"}, {Cat: "VP"}}, Source: items("1 2"), Target: items("1 2"), Cost: 1},
			{
				Left: "NP", Parts: []api.Part{{From: "hund", To: "dog"}}, Source: items("der 1"), Target: items("the 1"),
				Equations: []api.Equation{same("1.t.num", "1.s.num"), same("0.s.num", "1.s.num")},
			},
			{Left: "VP", Parts: []api.Part{{From: "seh", To: "see"}, {Cat: "NP"}}, Source: items("2 1"), Target: items("1 2"), Cost: 2},
		},
	}
	if got, e := grammar.Reverse(given()); e != api.OK || !sameSystem(got, want) {
		t.Error(got, e)
	}
	if got, e := grammar.Reverse(want); e != api.OK || !sameSystem(got, given()) {
		t.Error(got, e)
	}
}

// P3.7: of an equation with a value just A is exchanged; B is no path, and stays zero.
func TestReverseEquations(t *testing.T) {
	got, e := grammar.Reverse(sound())
	want := []api.Equation{has("1.t.num", "pl"), same("0.s.gen", "2.t.per"), has("2.s.gen", "f")}
	if e != api.OK || len(got.Rules) != 3 || len(got.Rules[1].Equations) != 3 {
		t.Fatal(got, e)
	}
	for i, q := range got.Rules[1].Equations {
		if q != want[i] {
			t.Errorf("%v, want %v", q, want[i])
		}
	}
}

// P3.7: the errors of Reverse, in their order.
func TestReverseErrors(t *testing.T) {
	empty := rule("A")
	empty.Target = nil
	there := rule("A", "B") // from A to B in the target language alone
	there.Target = items("1")
	back := rule("B", "A")
	back.Target = items("1")
	for _, x := range []struct {
		name string
		s    api.System
		e    api.Errno
	}{
		{"an error", withRules(rule(""), empty), api.ErrName},
		{"an empty target", withRules(rule("S"), empty), api.ErrArg},
		{"an empty target, and chains that lead back", withRules(there, back, empty), api.ErrArg},
		{"chains that lead back", withRules(there, back), api.ErrLoop},
		{"a chain that leads to itself", withRules(api.Rule{Left: "A", Parts: []api.Part{{Cat: "A"}}, Source: items("x 1"), Target: items("1")}), api.ErrLoop},
		{"chains that do not lead back", withRules(there, there), api.OK},
		{"chains that lead back by both sides alone", withRules(there, chained("B", "A")), api.ErrLoop},
	} {
		if got, e := grammar.Reverse(x.s); e != x.e || e != api.OK && !isZero(got) {
			t.Errorf("%s: %v, error %d, want %d", x.name, got, e, x.e)
		}
	}
}

// R4: what Reverse returns shares no memory with its argument, and its lexicons share none with each other.
func TestReverseShares(t *testing.T) {
	fresh := func() api.System {
		s := sound()
		s.Rules = s.Rules[1:2]
		s.Rules[0].Parts[0] = api.Part{From: "dog", To: "dog"}
		s.Rules[0].Equations = []api.Equation{has("1.s.num", "pl")}
		s.Source = full()
		s.Target = s.Source
		return s
	}
	s := fresh()
	got, e := grammar.Reverse(s)
	want, _ := grammar.Reverse(fresh())
	if e != api.OK || !sameSystem(got, want) {
		t.Fatal(got, e)
	}
	spoil(&s.Source)
	s.Rules[0].Parts[0].From = "x"
	s.Rules[0].Source[0].Word = "x"
	s.Rules[0].Target[0].Part = 9
	s.Rules[0].Equations[0].Value = "x"
	s.Rules[0].Left = "x"
	if !sameSystem(got, want) {
		t.Error("the result shares memory with the argument")
	}
	spoil(&got.Source)
	if !sameLexicon(got.Target, want.Target) {
		t.Error("the lexicons share memory")
	}
}

// P3.7: trees with their sides exchanged.
func TestFlip(t *testing.T) {
	for text, want := range map[string]string{
		theTree:                   "(0 (1 [0 0 > 0 0]) (2 [2 0 > 2 0] (1 [0 1 > 0 1])))",
		"[1 2 > 3 4]":             "[3 4 > 1 2]",
		"(5)":                     "(5)",
		"(5 [1 2 > 3 4] (6 (7)))": "(5 [3 4 > 1 2] (6 (7)))",
	} {
		got, e := grammar.Flip(tree(t, text))
		if e != api.OK || !sameTree(got, tree(t, want)) {
			t.Errorf("%s: %v, error %d", text, got, e)
		}
	}
	odd := api.Tree{Rule: -1, Kids: []api.Tree{leaf(1, 2, 3, 4), {Rule: -2, From: api.Analysis{Firsts: []api.First{{Entry: 1}}, Entry: 5}, Slot: 6}}, Entry: -7}
	want := api.Tree{Rule: -1, Kids: []api.Tree{leaf(3, 4, 1, 2), cloned(odd.Kids[1])}, From: api.Analysis{Entry: -7}}
	if got, e := grammar.Flip(odd); e != api.OK || !sameTree(got, want) {
		t.Error(got, e)
	}
}

// P3.7: the errors of Flip.
func TestFlipErrors(t *testing.T) {
	compound := tree(t, "[0.0.0 0 0 > 0 0]")
	wide := fan(513)
	wide.Kids[0] = compound
	for _, x := range []struct {
		name string
		t    api.Tree
		e    api.Errno
	}{
		{"first parts", compound, api.ErrScope},
		{"first parts below", tree(t, "(0 [0 0 > 0 0] (1 [0.0.0 0 0 > 0 0]))"), api.ErrScope},
		{"first parts, and too many nodes", wide, api.ErrLimit},
		{"too many nodes", fan(513), api.ErrLimit},
		{"nodes", fan(512), api.OK},
		{"too deep", row(65), api.ErrLimit},
		{"deep", row(64), api.OK},
	} {
		if got, e := grammar.Flip(x.t); e != x.e || e != api.OK && !sameTree(got, api.Tree{}) {
			t.Errorf("%s: error %d, want %d", x.name, e, x.e)
		}
	}
}

// R4: what Flip returns shares no memory with its argument.
func TestFlipShares(t *testing.T) {
	first := func() api.Tree {
		return api.Tree{Rule: 1, From: api.Analysis{Firsts: []api.First{{Entry: 1}}}, Kids: []api.Tree{leaf(1, 2, 3, 4)}}
	}
	x := first()
	got, e := grammar.Flip(x)
	x.From.Firsts[0].Entry = 9
	x.Kids[0].Entry = 9
	want := first()
	want.Kids[0] = leaf(3, 4, 1, 2)
	if e != api.OK || !sameTree(got, want) {
		t.Error(got, e)
	}
}

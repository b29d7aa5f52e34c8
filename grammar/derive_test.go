package grammar_test

import (
	"slices"
	"strings"
	"testing"

	"truchman/api"
	"truchman/grammar"
)

func derived(t *testing.T, s api.System, text string) api.Reading {
	t.Helper()
	r, e := grammar.Derive(s, tree(t, text))
	if e != api.OK {
		t.Fatalf("Derive(%s): error %d", text, e)
	}
	return r
}

// P3.4: the readings of trees of the system of the chapter.
func TestDerive(t *testing.T) {
	for _, x := range []struct {
		tree, cat, source, target, bundles string
		cost                               int
	}{
		{theTree, "S", "the dog see the dogs", "der hund der hunde sehen", "/", 3},
		{"(1 [0 0 > 0 0])", "NP", "the dog", "der hund", "/ num=sg", 0},
		{"(1 [0 1 > 0 1])", "NP", "the dogs", "der hunde", "/ num=pl", 0},
		{"(2 [2 0 > 2 0] (1 [0 1 > 0 1]))", "VP", "see the dogs", "der hunde sehen", "/", 2},
	} {
		p := pair(x.bundles)
		want := api.Reading{Cat: x.cat, Source: strings.Fields(x.source), Target: strings.Fields(x.target), Left: p.Source, Right: p.Target, Cost: x.cost}
		if got := derived(t, given(), x.tree); !sameReading(got, want) {
			t.Errorf("%s: %v, want %v", x.tree, got, want)
		}
	}
}

// compounds is a system whose source lexicon makes compounds, and whose lexicons have irregular and missing forms.
func compounds() api.System {
	source := lexicon(sourceText + "form 0 saw\nspell t+ tt+ V s\nlink noun o num=sg\n")
	target := lexicon(targetText + "form 0 -\n")
	r := rule("S", "dog", "S")
	r.Equations = []api.Equation{same("0.s.num", "1.s.num"), same("0.t.num", "2.t.num"), same("1.t.num", "2.t.num")}
	r.Source, r.Target = items("2 a 1 b"), nil
	r.Target = items("1 c 2")
	end := rule("S")
	end.Target = nil
	end.Equations = []api.Equation{has("0.t.num", "pl")}
	cat := api.Rule{Left: "C", Parts: []api.Part{{From: "cat", To: "katz"}}, Source: items("1"), Target: items("1"), Cost: 7}
	see := api.Rule{Left: "V", Parts: []api.Part{{From: "see", To: "seh"}}, Source: items("1"), Target: items("1")}
	two := api.Rule{Left: "CC", Parts: []api.Part{{Cat: "C"}, {From: "dog", To: "hund"}, {Cat: "C"}}, Source: items("3 2 1"), Target: items("2 x 3 1"), Cost: 10000}
	return api.System{Source: source, Target: target, Start: "S", Rules: []api.Rule{r, end, cat, see, two}}
}

// P3.4: first parts, irregular forms, targets without words, costs that add up.
func TestDeriveMore(t *testing.T) {
	for _, x := range []struct {
		tree, cat, source, target, bundles string
		cost                               int
	}{
		{"(1)", "S", "x", "", "/ num=pl", 0},
		{"(0 [0 0 > 0 1] (1))", "S", "x a dog b", "hunde c", "num=sg / num=pl", 0},
		{"(0 [0 1 > 0 1] (0 [0 0 > 0 1] (1)))", "S", "x a dog b a dogs b", "hunde c hunde c", "num=pl / num=pl", 0},
		{"(2 [1 0 > 1 0])", "C", "cat", "katz", "/", 7},
		{"(2 [1 1 > 1 1])", "C", "catts", "katze", "/", 7},
		{"(2 [0.0.0 1 0 > 1 0])", "C", "dogocat", "katz", "/", 7},
		{"(2 [0.0.0 1.0.0 1 1 > 1 0])", "C", "dogocatocatts", "katz", "/", 7},
		{"(4 (2 [1 0 > 1 0]) [1.0.0 0 1 > 0 0] (2 [0.0.0 1 0 > 1 1]))", "CC", "dogocat catodogs cat", "hund x katze katz", "/", 10014},
	} {
		p := pair(x.bundles)
		want := api.Reading{Cat: x.cat, Source: strings.Fields(x.source), Target: strings.Fields(x.target), Left: p.Source, Right: p.Target, Cost: x.cost}
		if got := derived(t, compounds(), x.tree); !sameReading(got, want) {
			t.Errorf("%s: %v, want %v", x.tree, got, want)
		}
	}
}

// P3.4: trees without a reading, by the system of the chapter.
func TestDeriveErrors(t *testing.T) {
	for text, want := range map[string]api.Errno{
		"(1 [0 1 > 0 0])":     api.ErrClash,
		"(1 [0 0 > 0 1])":     api.ErrClash,
		"[0 0 > 0 0]":         api.ErrArg, // lexical
		"(3)":                 api.ErrArg, // no such rule
		"(1)":                 api.ErrArg, // no kids
		"(1 [0 0 > 0 0] (1))": api.ErrArg, // too many kids
		"(1 (1 [0 0 > 0 0]))": api.ErrArg, // a kid that should be lexical
		"(0 [0 0 > 0 0] (2 [2 0 > 2 0] (1 [0 1 > 0 1])))":     api.ErrArg, // a kid that should not
		"(0 (2 [2 0 > 2 0] (1 [0 1 > 0 1])) (1 [0 0 > 0 0]))": api.ErrArg, // kids in the other order
		"(0 (3) (2))":                             api.ErrArg,   // a kid of no rule
		"(1 [3 0 > 0 0])":                         api.ErrNone,  // no such source entry
		"(1 [0 2 > 0 0])":                         api.ErrNone,  // no such source slot
		"(1 [1 0 > 0 0])":                         api.ErrNone,  // another source lemma
		"(1 [0 0 > 3 0])":                         api.ErrNone,  // no such target entry
		"(1 [0 0 > 0 2])":                         api.ErrNone,  // no such target slot
		"(1 [0 0 > 1 0])":                         api.ErrNone,  // another target lemma
		"(1 [0.0.0 0 0 > 0 0])":                   api.ErrNone,  // no such link
		"(0 (1 [0 1 > 0 0]) (2))":                 api.ErrClash, // the first kid decides
		"(0 (1) (2 [2 0 > 2 0] (1 [0 1 > 0 0])))": api.ErrArg,   // the first kid decides
		"(0 (1 [9 0 > 0 0]) (2 [2 0 > 2 0] (1 [0 1 > 0 0])))":     api.ErrNone,  // the first kid decides
		"(0 (1 [0 0 > 0 0]) (2 [2 0 > 2 0] (1 [0 1 > 0 0])))":     api.ErrClash, // the second kid decides
		"(0 (1 [0 1 > 0 0]) [0 0 > 0 0])":                         api.ErrArg,   // what the kids are comes ahead of their readings
		"(2 [0 0 > 2 0] (1 [0 1 > 0 0]))":                         api.ErrNone,  // a lemma comes ahead of the next kid
		"(2 [2 0 > 0 0] (1))":                                     api.ErrNone,  // so does that of the target
		"(0 (1 [0 0 > 0 0]) (2 [2 0 > 2 0] (1 [0 0 > 0 0] (1))))": api.ErrArg,   // deep below
	} {
		if got, e := grammar.Derive(given(), tree(t, text)); e != want || !sameReading(got, api.Reading{}) {
			t.Errorf("%s: %v, error %d, want %d", text, got, e, want)
		}
	}
}

// P3.4: trees that have no text.
func TestDeriveOddTrees(t *testing.T) {
	good := leaf(0, 0, 0, 0)
	withKids := leaf(9, 0, 0, 0)
	withKids.Kids = []api.Tree{{}}
	one := api.Analysis{Firsts: []api.First{{}}}
	np := func(kid api.Tree) api.Tree { return api.Tree{Rule: 1, Kids: []api.Tree{kid}} }
	for _, x := range []struct {
		name string
		t    api.Tree
		e    api.Errno
	}{
		{"good", np(good), api.OK},
		{"a rule below -1", api.Tree{Rule: -2, Kids: []api.Tree{good}}, api.ErrArg},
		{"a kid of a rule below -1", np(api.Tree{Rule: -2}), api.ErrArg},
		{"a first part of a tree of a rule", api.Tree{Rule: 1, From: one, Kids: []api.Tree{good}}, api.ErrArg},
		{"an entry of From", api.Tree{Rule: 1, From: api.Analysis{Entry: 1}, Kids: []api.Tree{good}}, api.ErrArg},
		{"a slot of From", api.Tree{Rule: 1, From: api.Analysis{Slot: -1}, Kids: []api.Tree{good}}, api.ErrArg},
		{"an entry", api.Tree{Rule: 1, Entry: 1, Kids: []api.Tree{good}}, api.ErrArg},
		{"a slot", api.Tree{Rule: 1, Slot: 1, Kids: []api.Tree{good}}, api.ErrArg},
		{"an empty list of first parts", api.Tree{Rule: 1, From: api.Analysis{Firsts: []api.First{}}, Kids: []api.Tree{good}}, api.OK},
		{"a lexical tree with kids, and without a word", np(withKids), api.ErrArg},
		{"a lexical tree with kids at the top", withKids, api.ErrArg},
		{"a lexical tree that is too large", api.Tree{Rule: -1, Kids: fan(513).Kids}, api.ErrLimit},
		{"an entry below 0", np(leaf(-1, 0, 0, 0)), api.ErrNone},
		{"a slot below 0", np(leaf(0, -1, 0, 0)), api.ErrNone},
		{"a target entry below 0", np(leaf(0, 0, -1, 0)), api.ErrNone},
		{"a target slot below 0", np(leaf(0, 0, 0, -1)), api.ErrNone},
		{"too many nodes", fan(513), api.ErrLimit},
		{"as many nodes as may be", fan(512), api.ErrArg},
		{"too deep", row(65), api.ErrLimit},
		{"as deep as may be", row(64), api.ErrArg},
	} {
		if got, e := grammar.Derive(given(), x.t); e != x.e || e != api.OK && !sameReading(got, api.Reading{}) {
			t.Errorf("%s: %v, error %d, want %d", x.name, got, e, x.e)
		}
	}
}

// P3.4: lexical trees without a word or a form.
func TestDeriveMissing(t *testing.T) {
	long := compounds()
	long.Source.Links[0].Glue = "abcdef"
	long.Source.Entries[0].Lemma, long.Source.Entries[0].Forms = "dog", []api.Irregular{{Slot: 0, Word: strings.Repeat("x", 20)}}
	for _, x := range []struct {
		name, tree string
		s          api.System
		e          api.Errno
	}{
		{"no form of the target", "(3 [2 0 > 2 0])", compounds(), api.ErrNone},
		{"three first parts", "(2 [0.0.0 0.0.0 0.0.0 1 0 > 1 0])", compounds(), api.ErrNone},
		{"a first part in the plural", "(2 [0.1.0 1 0 > 1 0])", compounds(), api.ErrNone},
		{"a first part of another class", "(2 [2.0.0 1 0 > 1 0])", compounds(), api.ErrNone},
		{"a first part with the right lemma alone", "(2 [1.0.0 0 0 > 1 0])", compounds(), api.ErrNone},
		{"a long word", "(2 [0.0.0 1 0 > 1 0])", long, api.ErrNone},
		{"a word of the longest form", "(2 [1 0 > 1 0])", long, api.OK},
	} {
		accepted(t, x.s)
		if _, e := grammar.Derive(x.s, tree(t, x.tree)); e != x.e {
			t.Errorf("%s: error %d, want %d", x.name, e, x.e)
		}
	}
}

// P3.4: a lemma with entries of several classes: each is of the part.
func TestDeriveLemma(t *testing.T) {
	s := given()
	s.Source.Entries = append(s.Source.Entries, api.Entry{Lemma: "dog", Class: "verb"})
	s.Target.Entries = append(s.Target.Entries, api.Entry{Lemma: "hund", Class: "verb"})
	for text, want := range map[string]string{"(1 [3 0 > 0 1])": "the dog / der hunde", "(1 [0 1 > 3 0])": "the dogs / der hunden", "(1 [3 0 > 3 0])": "the dog / der hunden"} {
		r := derived(t, s, text)
		if got := strings.Join(slices.Concat(r.Source, []string{"/"}, r.Target), " "); got != want {
			t.Errorf("%s: %s", text, got)
		}
	}
}

// P3.4: trees with as many nodes, and as deep, as may be.
func TestDeriveLargest(t *testing.T) {
	s := compounds()
	s.Rules = append(s.Rules,
		api.Rule{Left: "T", Parts: []api.Part{{Cat: "T"}, {Cat: "T"}}, Source: items("1 2"), Target: items("2 1"), Cost: 10000},
		api.Rule{Left: "T", Source: items("t"), Target: items("u"), Cost: 1},
		api.Rule{Left: "T", Parts: []api.Part{{Cat: "T"}}, Source: items("w 1"), Target: items("1 v"), Cost: 3},
	)
	deep := "(6)"
	for range 63 {
		deep = "(7 " + deep + ")"
	}
	r := derived(t, s, deep)
	if len(r.Source) != 64 || len(r.Target) != 64 || r.Source[63] != "t" || r.Target[0] != "u" || r.Cost != 63*3+1 {
		t.Error(r)
	}
	wide := []string{}
	for range 256 {
		wide = append(wide, "(6)")
	}
	for len(wide) > 1 {
		var half []string
		for i := 0; i < len(wide); i += 2 {
			half = append(half, "(5 "+wide[i]+" "+wide[i+1]+")")
		}
		wide = half
	}
	r = derived(t, s, "(7 "+wide[0]+")") // 511 nodes, and one more
	if len(r.Source) != 257 || len(r.Target) != 257 || r.Cost != 255*10000+256+3 {
		t.Error(len(r.Source), len(r.Target), r.Cost)
	}
}

// R4: what Derive returns shares no memory with the system, and has none twice.
func TestDeriveShares(t *testing.T) {
	s := given()
	first := derived(t, s, "(1 [0 1 > 0 1])")
	first.Right[0].Value = "xx"
	first.Source[0], first.Target[0] = "xx", "xx"
	if second := derived(t, s, "(1 [0 1 > 0 1])"); second.Right[0].Value != "pl" || second.Source[0] != "the" || second.Target[0] != "der" {
		t.Error(second)
	}
	if !sameSystem(s, given()) {
		t.Error(s)
	}
}

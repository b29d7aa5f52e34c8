package grammar_test

import (
	"slices"
	"testing"

	"truchman/api"
	"truchman/grammar"
)

// chained is a rule that is a chain.
func chained(from, to string) api.Rule {
	return api.Rule{Left: from, Parts: []api.Part{{Cat: to}}, Source: items("1"), Target: items("1")}
}

// withRules is a system of the given lexicons with rules.
func withRules(rules ...api.Rule) api.System {
	s := given()
	s.Rules = rules
	return s
}

// rule is a rule whose parts, of categories or (with small letters) lexical, stand in the order of their numbers.
func rule(left string, cats ...string) api.Rule {
	r := api.Rule{Left: left, Source: items("x"), Target: items("x")}
	for i, c := range cats {
		part := api.Part{Cat: c}
		if c == "dog" {
			part = api.Part{From: "dog", To: "hund"}
		}
		r.Parts = append(r.Parts, part)
		r.Source = append(r.Source, api.Item{Part: i + 1})
		r.Target = append(r.Target, api.Item{Part: i + 1})
	}
	return r
}

// P3.1: chains that lead back, and such that do not.
func TestLoops(t *testing.T) {
	for _, x := range []struct {
		name   string
		chains []string // two letters each
		e      api.Errno
	}{
		{"none", nil, api.OK},
		{"one", []string{"AB"}, api.OK},
		{"one to itself", []string{"AA"}, api.ErrLoop},
		{"two", []string{"AB", "BA"}, api.ErrLoop},
		{"a row", []string{"AB", "BC", "CD", "DE"}, api.OK},
		{"a row back to the middle", []string{"AB", "BC", "CD", "DC"}, api.ErrLoop},
		{"a row back to the beginning", []string{"CD", "AB", "DA", "BC"}, api.ErrLoop},
		{"two ways", []string{"AB", "AC", "BD", "CD"}, api.OK},
		{"the same one twice", []string{"AB", "AB"}, api.OK},
		{"a loop apart", []string{"AB", "XY", "YZ", "ZX"}, api.ErrLoop},
		{"a way into a loop and one out of it", []string{"AB", "BC", "CB", "CD"}, api.ErrLoop},
	} {
		var rules []api.Rule
		var want [][]string
		for _, c := range x.chains {
			rules = append(rules, chained(c[:1], c[1:]))
			want = append(want, []string{c[:1], c[1:]})
		}
		s := withRules(rules...)
		if e := grammar.Check(s); e != x.e {
			t.Errorf("%s: error %d, want %d", x.name, e, x.e)
		}
		if x.e != api.OK {
			want = nil
		}
		if got, e := grammar.Chains(s); e != x.e || !slices.EqualFunc(got, want, slices.Equal) {
			t.Errorf("%s: %v, error %d", x.name, got, e)
		}
	}
}

// P3.1, P3.6: rules that are no chains, since Source has other items, or the part is lexical; Target does not matter.
func TestChains(t *testing.T) {
	word := chained("A", "A")
	word.Source = items("x 1")
	behind := chained("A", "A")
	behind.Source = items("1 x")
	lex := chained("A", "")
	lex.Parts[0] = api.Part{From: "dog", To: "hund"}
	alone := api.Rule{Left: "A", Source: items("x"), Target: items("x")}
	two := rule("A", "A", "A")
	two.Source = items("1 2")
	wide := chained("B", "A")
	wide.Target = items("x 1 y")
	s := withRules(word, behind, lex, alone, two, wide, chained("C", "B"), wide, chained("C", "None"))
	got, e := grammar.Chains(s)
	if want := [][]string{{"B", "A"}, {"C", "B"}, {"B", "A"}, {"C", "None"}}; e != api.OK || !slices.EqualFunc(got, want, slices.Equal) {
		t.Error(got, e)
	}
	if got, e := grammar.Chains(given()); e != api.OK || len(got) != 0 {
		t.Error(got, e)
	}
}

// P3.6: rules that could take part in a tree of the start category.
func TestUseful(t *testing.T) {
	for _, x := range []struct {
		name  string
		rules []api.Rule
		want  []int
	}{
		{"no rules", nil, nil},
		{"a rule of words alone", []api.Rule{rule("S")}, []int{0}},
		{"a lexical part", []api.Rule{rule("S", "dog")}, []int{0}},
		{"another category than the start", []api.Rule{rule("A"), rule("S")}, []int{1}},
		{"no rule of the start category", []api.Rule{rule("A"), rule("B", "A")}, nil},
		{"a category without rules", []api.Rule{rule("S", "A"), rule("S", "dog")}, []int{1}},
		{"a category that is never made", []api.Rule{rule("S", "A"), rule("A", "A"), rule("A", "A", "dog")}, nil},
		{"a category that contains itself", []api.Rule{rule("S", "S", "S"), rule("S", "dog")}, []int{0, 1}},
		{"made later", []api.Rule{rule("S", "A"), rule("A", "B"), rule("B", "C"), rule("C")}, []int{0, 1, 2, 3}},
		{"made earlier", []api.Rule{rule("C"), rule("B", "C"), rule("A", "B"), rule("S", "A")}, []int{0, 1, 2, 3}},
		{"reached by a rule that is not complete", []api.Rule{rule("S", "A", "None"), rule("A"), rule("S", "B"), rule("B")}, []int{2, 3}},
		{"made, but not reached", []api.Rule{rule("S"), rule("A", "S"), rule("B", "A")}, []int{0}},
		{"an incomplete rule of a reached category", []api.Rule{rule("S", "A"), rule("A", "None"), rule("A", "dog"), rule("A", "B", "A"), rule("B", "None")}, []int{0, 2}},
		{"incomplete by its last part", []api.Rule{rule("S", "A", "dog", "None"), rule("A")}, nil},
	} {
		if got, e := grammar.Useful(withRules(x.rules...)); e != api.OK || !slices.Equal(got, x.want) {
			t.Errorf("%s: %v, error %d, want %v", x.name, got, e, x.want)
		}
	}
	if got, e := grammar.Useful(given()); e != api.OK || !slices.Equal(got, []int{0, 1, 2}) {
		t.Error(got, e)
	}
}

// P3.6: equations and missing forms do not count for Useful.
func TestUsefulWithoutTrees(t *testing.T) {
	s := given()
	s.Rules = s.Rules[1:2]
	s.Start = "NP"
	s.Rules[0].Equations = []api.Equation{has("0.s.num", "sg"), has("0.s.num", "pl")}
	s.Source.Entries[0].Forms = []api.Irregular{{Slot: 0}, {Slot: 1}}
	if got, e := grammar.Useful(s); e != api.OK || !slices.Equal(got, []int{0}) {
		t.Error(got, e)
	}
}

// P3.6: pairs of parts in the other order.
func TestMoves(t *testing.T) {
	for _, x := range []struct {
		source, target string
		parts, want    int
	}{
		{"x", "x", 0, 0}, {"x", "", 0, 0}, {"1", "1", 1, 0}, {"x 1", "1 x", 1, 0},
		{"1 2", "1 2", 2, 0}, {"1 2", "2 1", 2, 1}, {"2 1", "2 1", 2, 0}, {"2 1", "1 2", 2, 1},
		{"a 2 b 1 c", "1 a b c 2", 2, 1},
		{"1 2 3", "3 2 1", 3, 3}, {"1 2 3", "2 3 1", 3, 2}, {"3 1 2", "2 1 3", 3, 3}, {"3 1 2", "3 2 1", 3, 1},
		{"1 2 3 4", "4 3 2 1", 4, 6}, {"4 2 1 3", "4 2 1 3", 4, 0}, {"4 x 2 1 3", "2 4 3 x 1", 4, 2},
	} {
		r := rule("S", []string{"A", "B", "C", "D"}[:x.parts]...)
		r.Source, r.Target = items(x.source), items(x.target)
		if got, e := grammar.Moves(withRules(rule("S"), r), 1); e != api.OK || got != x.want {
			t.Errorf("%s to %s: %d, error %d, want %d", x.source, x.target, got, e, x.want)
		}
	}
	for n, want := range []int{0, 0, 1} {
		if got, e := grammar.Moves(given(), n); e != api.OK || got != want {
			t.Errorf("rule %d: %d, error %d, want %d", n, got, e, want)
		}
	}
	for _, n := range []int{-1, 3, -1 << 63, 1<<63 - 1} {
		if got, e := grammar.Moves(given(), n); e != api.ErrNone || got != 0 {
			t.Errorf("rule %d: %d, error %d", n, got, e)
		}
	}
}

package desk_test

import (
	"fmt"
	"math/rand/v2"
	"slices"
	"strings"
	"testing"

	"truchman/api"
	"truchman/chart"
	"truchman/desk"
	"truchman/grammar"
	"truchman/morph"
)

// written writes ties: "1-1 2-4".
func written(l []api.Tie) string {
	var out []string
	for _, x := range l {
		out = append(out, fmt.Sprint(x.Source, "-", x.Target))
	}
	return strings.Join(out, " ")
}

// P10.1: the ties of trees.
func TestTies(t *testing.T) {
	for _, x := range []struct {
		what    string
		s       api.System
		t, want string
	}{
		{"the tree of chapter 3", given(), theTree, "1-1 2-4 4-3"},
		{"words that change places", given(), "(3 [3 0 > 3 0] [1 1 > 1 1])", "1-2 2-1"},
		{"a part of another category", given(), "(2 [2 0 > 2 0] (3 [3 0 > 3 0] [1 0 > 1 0]))", "0-3 2-2 3-1"},
		{"no word at all on the target side", ruled("start S\nrule S 0\nsource =x\ntarget\n"), "(0)", ""},
		{"words alone", ruled("start S\nrule S 0\nsource =x =y\ntarget =z\n"), "(0)", ""},
		{"a lexical part alone", ruled("start S\nrule S 0\nlex a a\nsource 1\ntarget 1\n"), "(0 [0 1 > 0 0])", "0-0"},
		{"a compound is one word", ruled("start S\nrule S 0\nlex a a\nsource =x 1\ntarget 1 =y\n"), "(0 [1.0.0 2.0.0 0 1 > 0 1])", "1-0"},
		{"one word twice", ruled("start S\nrule S 0\nlex a b\nlex a b\nsource 1 2\ntarget 2 1\n"), "(0 [0 0 > 1 0] [0 0 > 1 0])", "0-1 1-0"},
		{"the same kid twice", ruled("start S\nrule S 0\ncat A\ncat A\nsource 2 =x 1\ntarget =y 2 1\nrule A 0\nlex a b\nsource =z 1\ntarget 1 =z\n"),
			"(0 (1 [0 0 > 1 0]) (1 [0 0 > 1 0]))", "1-1 4-3"},
		{"both sides in an order of their own", ruled("start S\nrule S 0\nlex a a\nlex b b\nlex c c\nlex d d\nsource 3 =x 1 4 2\ntarget 2 4 =x =x 3 =x 1\n"),
			"(0 [0 0 > 0 0] [1 0 > 1 0] [2 0 > 2 0] [3 0 > 3 0])", "0-4 2-6 3-1 4-0"},
		{"a word of the target alone ahead of all", ruled("start S\nrule S 0\ncat A\nlex b b\nsource 2 1\ntarget =x 1 2\nrule A 0\nsource =y\ntarget =x =x\n"),
			"(0 (1) [1 0 > 1 0])", "0-3"},
		{"a kid without target words", ruled("start S\nrule S 0\ncat A\nlex b b\nsource 1 2\ntarget 1 2\nrule A 0\nsource =y =y\ntarget\n"), "(0 (1) [1 0 > 1 0])", "2-0"},
		{"parts of parts", ruled("start S\nrule S 0\ncat A\ncat A\nlex c c\nsource 1 2 3\ntarget 3 2 1\nrule A 0\nlex a a\nlex b b\nsource 2 1\ntarget 2 1\n"),
			"(0 (1 [0 0 > 0 0] [1 0 > 1 0]) (1 [0 1 > 0 1] [1 1 > 1 1]) [2 0 > 2 0])", "0-3 1-4 2-1 3-2 4-0"},
	} {
		l, e := desk.Ties(x.s, tree(x.t))
		if got := written(l); e != api.OK || got != x.want {
			t.Errorf("%s: %q, error %d, want %q", x.what, got, e, x.want)
		}
	}
}

// chained is the text of rules by which a tree of rules that are one in another has this depth, and that tree.
func chained(depth int) (string, api.Tree) {
	rules := "start S0\n"
	for i := range depth - 2 {
		rules += fmt.Sprintf("rule S%d 0\ncat S%d\nsource 1\ntarget 1\n", i, i+1)
	}
	rules += fmt.Sprintf("rule S%d 0\nlex a a\nsource =x 1\ntarget =x =x 1\n", depth-2)
	out := api.Tree{Rule: -1}
	for i := range depth - 1 {
		out = api.Tree{Rule: depth - 2 - i, Kids: []api.Tree{out}}
	}
	return rules, out
}

// P10.1: the errors of Derive.
func TestTiesErrors(t *testing.T) {
	broken := given()
	broken.Start = "1"
	deep, deepest := chained(api.MaxDepth)
	if l, e := desk.Ties(ruled(deep), deepest); e != api.OK || written(l) != "1-2" {
		t.Error(l, e)
	}
	deeper, tooDeep := chained(api.MaxDepth + 1)
	for _, x := range []struct {
		s    api.System
		t    api.Tree
		want api.Errno
	}{
		{broken, tree(theTree), api.ErrName},
		{api.System{}, api.Tree{}, api.ErrName},
		{ruled(deeper), tooDeep, api.ErrLimit},
		{given(), tree("[0 0 > 0 0]"), api.ErrArg},
		{given(), tree("(1)"), api.ErrArg},
		{given(), tree("(9)"), api.ErrArg},
		{given(), api.Tree{Rule: -2}, api.ErrArg},
		{given(), tree("(1 [0 9 > 0 0])"), api.ErrNone},
		{given(), tree("(1 [0 1 > 0 0])"), api.ErrClash},
	} {
		if l, e := desk.Ties(x.s, x.t); e != x.want || len(l) != 0 {
			t.Errorf("%+v: %v, error %d, want %d", x.t, l, e, x.want)
		}
	}
}

// random makes rules over the words a to f, so that many trees derive short sentences.
func random(r *rand.Rand) api.System {
	var rules strings.Builder
	rules.WriteString("start S\n")
	for range 3 + r.IntN(5) {
		rules.WriteString(randomRule(r))
	}
	s, _, e := grammar.Parse(lexicon(lettersText), lexicon(lettersText), rules.String())
	if e != api.OK { // chains that lead back
		return random(r)
	}
	return s
}

func randomRule(r *rand.Rand) string {
	out := fmt.Sprintf("rule %s %d\n", pick(r, "S", "S", "A", "B"), r.IntN(4))
	parts := r.IntN(api.MaxParts + 1)
	for range parts {
		if r.IntN(3) == 0 {
			out += "cat " + pick(r, "A", "B", "S") + "\n"
		} else {
			out += "lex " + pick(r, "a", "b", "c") + " " + pick(r, "a", "b", "d") + "\n"
		}
	}
	for _, side := range []string{"source", "target"} {
		var items []string
		for _, n := range r.Perm(parts) {
			items = append(items, fmt.Sprint(n+1))
		}
		for range r.IntN(3) {
			items = slices.Insert(items, r.IntN(len(items)+1), "="+pick(r, "x", "a", "y"))
		}
		if side == "source" && len(items) == 0 {
			items = []string{"=x"}
		}
		out += strings.TrimSuffix(side+" "+strings.Join(items, " "), " ") + "\n"
	}
	return out
}

// row is the words of a tree on one side, each with the node that it came of; 0 if of a rule's own word.
type row []struct {
	word string
	node int
}

// rows derives both sides of a tree, word by word. It numbers the nodes by a count that goes on.
func rows(s api.System, t api.Tree, count *int) (source, target row) {
	*count++
	if t.Rule < 0 {
		word, _ := morph.Build(s.Source, t.From)
		form, _ := morph.Form(s.Target, t.Entry, t.Slot)
		return row{{word, *count}}, row{{form, *count}}
	}
	var sources, targets []row
	for _, kid := range t.Kids {
		a, b := rows(s, kid, count)
		sources, targets = append(sources, a), append(targets, b)
	}
	return laidOut(s.Rules[t.Rule].Source, sources), laidOut(s.Rules[t.Rule].Target, targets)
}

func laidOut(items []api.Item, parts []row) row {
	var out row
	for _, x := range items {
		if x.Part > 0 {
			out = append(out, parts[x.Part-1]...)
		} else {
			out = append(out, row{{x.Word, 0}}...)
		}
	}
	return out
}

// plainTies are the ties of a tree, by the rows of its words.
func plainTies(s api.System, t api.Tree) []api.Tie {
	count := 0
	source, target := rows(s, t, &count)
	var out []api.Tie
	for i, a := range source {
		for j, b := range target {
			if a.node != 0 && a.node == b.node {
				out = append(out, api.Tie{Source: i, Target: j})
			}
		}
	}
	return out
}

// lexicals returns the lexical trees among the nodes of a tree.
func lexicals(t api.Tree) []api.Tree {
	if t.Rule < 0 {
		return []api.Tree{t}
	}
	var out []api.Tree
	for _, kid := range t.Kids {
		out = append(out, lexicals(kid)...)
	}
	return out
}

// P10.1, P10.4: ties of random trees. Each lexical tree has one, no two have a word in common, and the words are its word and its form.
func TestTiesOfMany(t *testing.T) {
	r := dice()
	found := 0
	for range 3000 {
		s := random(r)
		var words []string
		for range 1 + r.IntN(7) {
			words = append(words, pick(r, "a", "b", "c", "x", "y", "as", "ab"))
		}
		f, e := chart.Parse(s, words)
		if e != api.OK {
			t.Fatal(e)
		}
		for n := range f.Len() {
			item, _ := f.Item(n)
			if item.Cat == "" {
				continue
			}
			trees, _ := f.Best(n, 3)
			for _, x := range trees {
				found++
				checkTies(t, s, x)
			}
		}
	}
	if found < 3000 {
		t.Error("few trees:", found)
	}
}

func checkTies(t *testing.T, s api.System, x api.Tree) {
	t.Helper()
	l, e := desk.Ties(s, x)
	want := plainTies(s, x)
	if e != api.OK || !slices.Equal(l, want) {
		t.Fatalf("%+v: %v, error %d, want %v", x, l, e, want)
	}
	read, _ := grammar.Derive(s, x)
	var got, words []string
	seen := map[int]bool{}
	for i, tie := range l {
		if i > 0 && tie.Source <= l[i-1].Source || seen[tie.Target] {
			t.Fatalf("%+v: %v", x, l)
		}
		seen[tie.Target] = true
		got = append(got, read.Source[tie.Source]+" "+read.Target[tie.Target])
	}
	for _, node := range lexicals(x) {
		word, _ := morph.Build(s.Source, node.From)
		form, _ := morph.Form(s.Target, node.Entry, node.Slot)
		words = append(words, word+" "+form)
	}
	slices.Sort(got)
	slices.Sort(words)
	if !slices.Equal(got, words) {
		t.Fatalf("%+v: %v, of %v", x, got, words)
	}
}

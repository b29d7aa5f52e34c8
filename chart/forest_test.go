package chart_test

import (
	"math"
	"slices"
	"strings"
	"testing"

	"truchman/api"
	"truchman/chart"
)

// twoText is the text of rules by which a sentence of a has many trees, some of equal costs.
const twoText = `start S
rule S 1
cat S
cat S
source 1 2
target 2 1
rule S 1
cat S
cat S
source 1 2
target 1 2
rule S 3
source =a
target =b
rule T 5
cat S
source 1
target 1
`

// numbers are some that no forest has as an item's.
var noNumbers = []int{math.MinInt, -1, 99999, math.MaxInt}

// P4.2: numbers that are none, and lexical items.
func TestItem(t *testing.T) {
	f := parsed(t, given(), theWords)
	for _, n := range append([]int{9}, noNumbers...) {
		if x, e := f.Item(n); e != api.ErrNone || !sameItem(x, chart.Item{}) {
			t.Errorf("Item(%d): %v, error %d", n, x, e)
		}
		if l, e := f.Edges(n); e != api.ErrNone || len(l) != 0 {
			t.Errorf("Edges(%d): %v, error %d", n, l, e)
		}
	}
	if x, e := f.Item(3); e != api.OK || x.Left != nil || x.Right != nil || x.Cat != "" || x.Lex.Rule != -1 || x.From != 4 || x.To != 5 {
		t.Error(x, e)
	}
	if l, e := f.Edges(3); e != api.OK || len(l) != 0 {
		t.Error(l, e)
	}
	if x, e := f.Item(8); e != api.OK || x.Cat != "S" || !sameTree(x.Lex, api.Tree{}) || x.From != 0 || x.To != 5 {
		t.Error(x, e)
	}
}

// P4.2: the goals are items of the start category that span all words.
func TestGoals(t *testing.T) {
	s := ruled(twoText)
	for words, want := range map[string][]int{"": nil, "a": {0}, "a a": {4}, "a a a": {10}, "a b": nil} {
		if got := parsed(t, s, words).Goals(); !slices.Equal(got, want) {
			t.Errorf("%s: %v", words, got)
		}
	}
}

// P4.3: counts, as they grow, and where they stay.
func TestCount(t *testing.T) {
	f := parsed(t, ruled(twoText), "a a a a")
	for _, n := range append([]int{f.Len()}, noNumbers...) {
		if c := f.Count(n); c != 0 {
			t.Errorf("Count(%d): %d", n, c)
		}
	}
	for n := range f.Len() {
		x, _ := f.Item(n)
		want := map[int]uint64{1: 1, 2: 2, 3: 8, 4: 40}[x.To-x.From]
		if c := f.Count(n); c != want {
			t.Errorf("Count(%d): %d, want %d", n, c, want)
		}
	}
}

// P4.3: counts at their bound. Each word x has 16 trees.
func TestCountBound(t *testing.T) {
	target := "vowels a\nclass n\n" + strings.Repeat("slot 0 - -\n", 16) + "entry x n\n"
	wide := "rule W 0\ncat X\ncat X\ncat X\ncat X\nsource 1 2 3 4\ntarget 1 2 3 4\nrule X 0\nlex x x\nsource 1\ntarget 1\n"
	pair := "rule S 0\ncat W\ncat W\ncat W\ncat X\nsource 1 2 3 4\ntarget 1 2 3 4\n"
	half := "rule H 0\nsource =h\ntarget\n"
	for range 7 {
		half += "rule H 0\ncat Y\nsource 1\ntarget 1\n"
	}
	half += "rule Y 0\nsource =h\ntarget\n" // H has 8 trees
	for _, x := range []struct {
		name, rules, words string
		want               uint64
	}{
		{"2^52", pair, strings.Repeat("x ", 13), 1 << 52},
		{"2^60", "rule S 0\ncat W\ncat W\ncat W\ncat V\nsource 1 2 3 4\ntarget 1 2 3 4\nrule V 0\ncat X\ncat X\ncat X\nsource 1 2 3\ntarget 1 2 3\n", strings.Repeat("x ", 15), 1 << 60},
		{"2^64", "rule S 0\ncat W\ncat W\ncat W\ncat W\nsource 1 2 3 4\ntarget 1 2 3 4\n", strings.Repeat("x ", 16), math.MaxUint64},
		{"2^63", "rule S 0\ncat W\ncat W\ncat W\ncat V\nsource 1 2 3 4\ntarget 1 2 3 4\nrule V 0\ncat X\ncat X\ncat X\ncat H\nsource 1 2 3 4\ntarget 1 2 3 4\n", strings.Repeat("x ", 15) + "h", 1 << 63},
		{"2^63 and 2^63", strings.Repeat("rule S 0\ncat W\ncat W\ncat W\ncat V\nsource 1 2 3 4\ntarget 1 2 3 4\n", 2) + "rule V 0\ncat X\ncat X\ncat X\ncat H\nsource 1 2 3 4\ntarget 1 2 3 4\n", strings.Repeat("x ", 15) + "h", math.MaxUint64},
		{"2^62, three times", strings.Repeat("rule S 0\ncat W\ncat W\ncat W\ncat V\nsource 1 2 3 4\ntarget 1 2 3 4\n", 3) + "rule V 0\ncat X\ncat X\ncat X\ncat I\nsource 1 2 3 4\ntarget 1 2 3 4\n" + strings.Repeat("rule I 0\ncat Y\nsource 1\ntarget 1\n", 4), strings.Repeat("x ", 15) + "h", 3 << 62},
		{"2^63 and 2^63 and 1", strings.Repeat("rule S 0\ncat V\nsource 1\ntarget 1\n", 2) + "rule S 0\ncat W\nsource 1 =x =x =x =x =x =x\ntarget 1\nrule V 0\ncat W\ncat W\ncat W\ncat U\nsource 1 2 3 4\ntarget 1 2 3 4\nrule U 0\ncat X\ncat X\ncat X\ncat H\nsource 1 2 3 4\ntarget 1 2 3 4\n", strings.Repeat("x ", 15) + "h", math.MaxUint64},
	} {
		f := parsed(t, system(plainText, target, "start S\n"+x.rules+wide+half), x.words)
		goals := f.Goals()
		if len(goals) != 1 || f.Count(goals[0]) != x.want {
			t.Errorf("%s: %d goals, count %d, want %d", x.name, len(goals), f.Count(goals[0]), x.want)
		}
		if g := pruned(t, f, 0); g.Count(g.Goals()[0]) != x.want {
			t.Errorf("%s: pruned, count %d", x.name, g.Count(g.Goals()[0]))
		}
	}
}

// P4.4: costs inside and outside, and items without a place in any tree of a goal.
func TestCosts(t *testing.T) {
	f := parsed(t, given(), theWords)
	for n, want := range []struct {
		inside, outside int
		e               api.Errno
	}{{0, 3, 0}, {0, 0, api.ErrNone}, {0, 3, 0}, {0, 0, api.ErrNone}, {0, 3, 0}, {0, 3, 0}, {0, 3, 0}, {2, 1, 0}, {3, 0, 0}} {
		in, e := f.Inside(n)
		out, d := f.Outside(n)
		if in != want.inside || e != api.OK || out != want.outside || d != want.e {
			t.Errorf("item %d: %d, error %d; %d, error %d", n, in, e, out, d)
		}
	}
	for _, n := range append([]int{9}, noNumbers...) {
		if cost, e := f.Inside(n); cost != 0 || e != api.ErrNone {
			t.Errorf("Inside(%d): %d, error %d", n, cost, e)
		}
		if cost, e := f.Outside(n); cost != 0 || e != api.ErrNone {
			t.Errorf("Outside(%d): %d, error %d", n, cost, e)
		}
	}
	f = parsed(t, given(), "the dog see") // without a goal
	for n := range f.Len() {
		if cost, e := f.Outside(n); cost != 0 || e != api.ErrNone {
			t.Errorf("Outside(%d): %d, error %d", n, cost, e)
		}
	}
}

// P4.4: an item has its cheapest place, and the cheapest ones beside it.
func TestCostsCheapest(t *testing.T) {
	f := parsed(t, ruled(`start S
rule S 100
cat A
cat B
source 1 2
target 1 2
rule S 10
cat C
cat B
source 1 2
target 1 2
rule S 1
cat D
source 1
target 1
rule D 300
cat A
cat E
source 1 2
target 1 2
rule A 7
source =a
target
rule A 5
source =a
target
rule C 60
cat A
source 1
target 1
rule B 9
source =b
target
rule B 8
source =b
target
rule E 0
source =b
target
rule E 0
cat B
source 1
target 1
`), "a b")
	for cat, want := range map[string][2]int{"A": {5, 78}, "B": {8, 75}, "C": {65, 18}, "D": {305, 1}, "E": {0, 306}, "S": {83, 0}} {
		n := numberOf(t, f, cat)
		out, e := f.Outside(n)
		if inside(t, f, n) != want[0] || out != want[1] || e != api.OK {
			t.Errorf("%s: %d, %d, error %d", cat, inside(t, f, n), out, e)
		}
	}
}

// P4.5: the errors, in their order, and as many trees as there are.
func TestBest(t *testing.T) {
	f := parsed(t, ruled(twoText), "a a a")
	goal := f.Goals()[0]
	for _, x := range []struct {
		n, k int
		e    api.Errno
	}{
		{goal, 1, api.OK}, {goal, 64, api.OK}, {goal, 0, api.ErrArg}, {goal, -1, api.ErrArg}, {goal, math.MinInt, api.ErrArg}, {goal, 65, api.ErrLimit}, {goal, math.MaxInt, api.ErrLimit},
		{-1, 1, api.ErrNone}, {-1, 0, api.ErrNone}, {-1, 65, api.ErrNone}, {f.Len(), 0, api.ErrNone}, {math.MaxInt, 65, api.ErrNone},
	} {
		if l, e := f.Best(x.n, x.k); e != x.e || (len(l) > 0) != (e == api.OK) {
			t.Errorf("Best(%d, %d): %d trees, error %d", x.n, x.k, len(l), e)
		}
	}
	want := []string{ // all of them cost 11
		"(0 (0 (2) (2)) (2))", "(0 (1 (2) (2)) (2))", "(0 (2) (0 (2) (2)))", "(0 (2) (1 (2) (2)))",
		"(1 (0 (2) (2)) (2))", "(1 (1 (2) (2)) (2))", "(1 (2) (0 (2) (2)))", "(1 (2) (1 (2) (2)))",
	}
	if got := writtenAll(best(t, f, goal, 64)); !slices.Equal(got, want) {
		t.Error(got)
	}
	for k := range 8 {
		if got := writtenAll(best(t, f, goal, k+1)); !slices.Equal(got, want[:k+1]) {
			t.Error(k, got)
		}
	}
	if got := writtenAll(best(t, parsed(t, given(), "dog"), 1, 5)); !slices.Equal(got, []string{"[0 0 > 0 1]"}) {
		t.Error(got)
	}
}

// P4.5: trees of equal costs stand in the order of trees, others by their costs.
func TestBestOrder(t *testing.T) {
	f := parsed(t, ruled(`start S
rule A 4
source =a
target
rule A 2
source =a
target
rule S 3
cat A
cat A
source 2 1
target 1 2
rule S 1
cat A
cat A
source 1 2
target 1 2
rule A 3
source =a
target
rule S 4
source =a =a
target
`), "a a")
	want := []string{
		"(5)",         // 4
		"(3 (1) (1))", // 5
		"(3 (1) (4))", // 6
		"(3 (4) (1))",
		"(2 (1) (1))", // 7
		"(3 (0) (1))",
		"(3 (1) (0))",
		"(3 (4) (4))",
		"(2 (1) (4))", // 8
		"(2 (4) (1))",
		"(3 (0) (4))",
		"(3 (4) (0))",
		"(2 (0) (1))", // 9
		"(2 (1) (0))",
		"(2 (4) (4))",
		"(3 (0) (0))",
		"(2 (0) (4))", // 10
		"(2 (4) (0))",
		"(2 (0) (0))", // 11
	}
	if got := writtenAll(best(t, f, f.Goals()[0], 64)); !slices.Equal(got, want) {
		t.Errorf("%q", got)
	}
}

// P4.5: many trees, of which some are asked for.
func TestBestMany(t *testing.T) {
	f := parsed(t, ruled(twoText), strings.Repeat("a ", 16))
	l := best(t, f, f.Goals()[0], 64)
	for i, x := range l {
		if !f.Has(f.Goals()[0], x) || i > 0 && sameTree(l[i-1], x) {
			t.Error(written(x))
		}
	}
	if len(l) != 64 {
		t.Error(len(l))
	}
}

// P4.6: trees of any form.
func TestHasAndFind(t *testing.T) {
	f := parsed(t, given(), theWords)
	for text, want := range map[string]int{
		theTree:                           8,
		"(1 [0 0 > 0 0])":                 5,
		"(1 [0 1 > 0 1])":                 6,
		"(1 [0 1 > 0 0])":                 -1, // it clashes
		"(1 [1 0 > 1 0])":                 -1, // it has no reading
		"(2 [2 0 > 2 0])":                 -1, // a kid is missing
		"(0)":                             -1,
		"(3)":                             -1,
		"(9 [0 0 > 0 0])":                 -1,
		"(1 [0.0.0 0 0 > 0 0])":           -1,
		"(1 (1 [0 0 > 0 0]))":             -1,
		"(1 [0 0 > 0 0] (1))":             -1,
		"[0 0 > 0 0]":                     -1, // Find is of trees of rules
		"[0 5 > 0 0]":                     -1,
		"(2 [2 0 > 2 0] (1 [0 1 > 0 1]))": 7,
		"(2 [2 0 > 2 0] (1 [0 0 > 0 0]))": -1, // it derives other words
		"(0 (1 [0 1 > 0 1]) (2 [2 0 > 2 0] (1 [0 1 > 0 1])))": -1,
		"(0 (1 [0 0 > 0 0]) (2 [2 0 > 2 0] (1 [0 0 > 0 0])))": -1,
	} {
		x := tree(text)
		if got := f.Find(x); got != want {
			t.Errorf("Find(%s): %d, want %d", text, got, want)
		}
		for n := -1; n <= f.Len(); n++ {
			wanted := n >= 0 && n == want || text == "[0 0 > 0 0]" && n == 0
			if f.Has(n, x) != wanted {
				t.Errorf("Has(%d, %s): %v", n, text, !wanted)
			}
		}
	}
}

// P4.6: fields that a tree must not have.
func TestHasOddTrees(t *testing.T) {
	f := parsed(t, given(), theWords)
	lex, noun := tree("[0 0 > 0 0]"), tree("(1 [0 0 > 0 0])")
	if !f.Has(0, lex) || !f.Has(5, noun) || f.Find(noun) != 5 {
		t.Fatal("sound trees are not found")
	}
	spoiled := func(n int, x api.Tree, spoil func(t *api.Tree)) {
		t.Helper()
		x.Kids = slices.Clone(x.Kids)
		spoil(&x)
		if f.Has(n, x) || f.Find(x) != -1 {
			t.Error("an odd tree is found:", x)
		}
	}
	spoiled(0, lex, func(x *api.Tree) { x.Kids = []api.Tree{{}} })
	spoiled(0, lex, func(x *api.Tree) { x.Rule = -2 })
	spoiled(0, lex, func(x *api.Tree) { x.From.Firsts = make([]api.First, 1) })
	spoiled(0, lex, func(x *api.Tree) { x.From.Entry = -1 })
	spoiled(0, lex, func(x *api.Tree) { x.Slot = 2 })
	spoiled(5, noun, func(x *api.Tree) { x.Entry = 1 })
	spoiled(5, noun, func(x *api.Tree) { x.Slot = 1 })
	spoiled(5, noun, func(x *api.Tree) { x.From.Entry = 1 })
	spoiled(5, noun, func(x *api.Tree) { x.From.Slot = 1 })
	spoiled(5, noun, func(x *api.Tree) { x.From.Firsts = make([]api.First, 1) })
	spoiled(5, noun, func(x *api.Tree) { x.Kids[0].Kids = []api.Tree{{}} })
	spoiled(5, noun, func(x *api.Tree) { x.Kids = append(x.Kids, api.Tree{}) })
	spoiled(5, noun, func(x *api.Tree) { x.Kids = nil })
	spoiled(5, noun, func(x *api.Tree) { x.Rule = math.MaxInt })
	spoiled(5, noun, func(x *api.Tree) { x.Rule = math.MinInt })
	noun.Kids[0].Kids = []api.Tree{}
	noun.Kids[0].From.Firsts = []api.First{}
	noun.From.Firsts = []api.First{}
	if !f.Has(5, noun) || f.Find(noun) != 5 {
		t.Error("empty lists are not nil")
	}
}

// P4.6: trees that are larger than any of a forest.
func TestHasLargeTrees(t *testing.T) {
	f := parsed(t, ruled(twoText), "a a a")
	x := tree("(2)")
	for range 40 {
		x = api.Tree{Kids: []api.Tree{x, x}} // a tree of more nodes than can be counted
	}
	if f.Has(f.Goals()[0], x) || f.Find(x) != -1 {
		t.Error("a tree of many words")
	}
	x = tree("(2)")
	for range 60000 {
		x = api.Tree{Rule: 3, Kids: []api.Tree{x}}
	}
	if f.Has(0, x) || f.Find(x) != -1 {
		t.Error("a deep tree")
	}
}

// P4.6: of items that differ by their places alone Find finds the first one, Has each.
func TestFindFirst(t *testing.T) {
	f := parsed(t, ruled(twoText), "b a a b a a")
	for text, want := range map[string][]int{"(2)": {0, 2, 4, 6}, "(3 (2))": {1, 3, 5, 7}, "(1 (2) (2))": {8, 10}, "(3 (0 (2) (2)))": {9, 11}, "(0 (2) (1 (2) (2)))": nil} {
		x := tree(text)
		first := -1
		if len(want) > 0 {
			first = want[0]
		}
		if got := f.Find(x); got != first {
			t.Errorf("Find(%s): %d", text, got)
		}
		for n := range f.Len() {
			if f.Has(n, x) != slices.Contains(want, n) {
				t.Errorf("Has(%d, %s)", n, text)
			}
		}
	}
}

// beamText is the text of rules with trees of several costs.
const beamText = `start S
rule S 0
cat A
cat B
source 1 2
target 1 2
rule S 4
cat A
cat C
source 1 2
target 1 2
has 0.t.f p
rule A 1
source =a
target
rule A 3
source =a
target
rule B 1
source =b
target
rule B 4
cat C
source 1
target 1
rule C 2
lex x x
source 1
target 1
rule C 0
source =b
target
rule D 0
cat S
source 1
target 1
`

// P4.7: what stays, by beams; what has no place in a tree of a goal goes with any beam.
func TestPrune(t *testing.T) {
	f := parsed(t, ruled(beamText), "a b")
	linesAre(t, f, `
		0 0-1 A /: 2[] 3[]
		1 1-2 B /: 4[] 5[2]
		2 1-2 C /: 7[]
		3 0-2 D /: 8[4] 8[5]
		4 0-2 S /: 0[0 1] goal
		5 0-2 S / f=p: 1[0 2] goal`)
	steps := []struct {
		beam int
		want string
	}{
		{0, `
			0 0-1 A /: 2[]
			1 1-2 B /: 4[]
			2 0-2 S /: 0[0 1] goal`},
		{2, `
			0 0-1 A /: 2[] 3[]
			1 1-2 B /: 4[]
			2 0-2 S /: 0[0 1] goal`},
		{3, `
			0 0-1 A /: 2[] 3[]
			1 1-2 B /: 4[] 5[2]
			2 1-2 C /: 7[]
			3 0-2 S /: 0[0 1] goal
			4 0-2 S / f=p: 1[0 2] goal`},
	}
	for i, x := range steps {
		g := pruned(t, f, x.beam)
		linesAre(t, g, x.want)
		for _, y := range steps[i:] {
			linesAre(t, pruned(t, g, y.beam), x.want)
		}
		for _, y := range steps[:i] {
			linesAre(t, pruned(t, g, y.beam), y.want)
		}
	}
	linesAre(t, pruned(t, f, 1), steps[0].want)
	linesAre(t, pruned(t, f, math.MaxInt), steps[2].want)
	if f.Len() != 6 {
		t.Error("a forest is changed when it is pruned")
	}
}

// P4.7: a pruned forest knows no other trees, and the costs and the goals of those that it knows.
func TestPruned(t *testing.T) {
	f := parsed(t, ruled(beamText), "a b")
	g := pruned(t, f, 0)
	if got := g.Goals(); !slices.Equal(got, []int{2}) || g.Count(2) != 1 || g.Count(0) != 1 || g.Len() != 3 {
		t.Error(got)
	}
	for _, n := range []int{0, 1, 2} {
		if out, e := g.Outside(n); e != api.OK || out+inside(t, g, n) != 2 {
			t.Error(n, out, e)
		}
	}
	for text, want := range map[string]int{"(2)": 0, "(3)": -1, "(4)": 1, "(5 (7))": -1, "(0 (2) (4))": 2, "(0 (3) (4))": -1, "(7)": -1, "(8 (0 (2) (4)))": -1} {
		if got := g.Find(tree(text)); got != want {
			t.Errorf("Find(%s): %d, want %d", text, got, want)
		}
		if want >= 0 && !g.Has(want, tree(text)) {
			t.Errorf("Has(%d, %s)", want, text)
		}
	}
	if got := writtenAll(best(t, g, 2, 9)); !slices.Equal(got, []string{"(0 (2) (4))"}) {
		t.Error(got)
	}
	// edges that stay are put together to trees that cost more than the beam
	g = pruned(t, f, 3)
	if got := writtenAll(best(t, g, 3, 9)); !slices.Equal(got, []string{"(0 (2) (4))", "(0 (3) (4))", "(0 (2) (5 (7)))", "(0 (3) (5 (7)))"}) {
		t.Error(got)
	}
}

// P4.7: the errors, and forests without goals.
func TestPruneErrors(t *testing.T) {
	f := parsed(t, given(), theWords)
	for _, beam := range []int{-1, math.MinInt} {
		if g, e := f.Prune(beam); e != api.ErrArg || g != nil {
			t.Error(beam, e)
		}
	}
	f = parsed(t, given(), "the dog see")
	for _, beam := range []int{0, 1, math.MaxInt} {
		g := pruned(t, f, beam)
		if f.Len() == 0 || g.Len() != 0 || len(g.Goals()) != 0 || g.Count(0) != 0 || g.Find(tree("(1 [0 0 > 0 0])")) != -1 {
			t.Error(beam)
		}
		if _, e := g.Item(0); e != api.ErrNone {
			t.Error(e)
		}
		if again := pruned(t, g, beam); again.Len() != 0 {
			t.Error(again.Len())
		}
	}
}

// R3: forests that Parse and Prune did not return.
func TestNoForest(t *testing.T) {
	for _, f := range []*chart.Forest{nil, {}} {
		for _, n := range []int{-1, 0, 1} {
			if x, e := f.Item(n); e != api.ErrNil || !sameItem(x, chart.Item{}) {
				t.Error(x, e)
			}
			if l, e := f.Edges(n); e != api.ErrNil || len(l) != 0 {
				t.Error(l, e)
			}
			if cost, e := f.Inside(n); e != api.ErrNil || cost != 0 {
				t.Error(cost, e)
			}
			if cost, e := f.Outside(n); e != api.ErrNil || cost != 0 {
				t.Error(cost, e)
			}
			if l, e := f.Best(n, n); e != api.ErrNil || len(l) != 0 {
				t.Error(l, e)
			}
			if g, e := f.Prune(n); e != api.ErrNil || g != nil {
				t.Error(e)
			}
			if f.Count(n) != 0 || f.Has(n, api.Tree{}) || f.Has(n, tree("[0 0 > 0 0]")) {
				t.Error(n)
			}
		}
		if f.Len() != 0 || len(f.Goals()) != 0 || f.Find(api.Tree{}) != 0 || f.Find(tree("[0 0 > 0 0]")) != 0 {
			t.Error("a value that is not zero")
		}
	}
}

// spoilTree changes all of a tree.
func spoilTree(t *api.Tree) {
	for i := range t.From.Firsts {
		t.From.Firsts[i] = api.First{Entry: 77}
	}
	for i := range t.Kids {
		spoilTree(&t.Kids[i])
	}
	*t = api.Tree{Rule: 77}
}

// R4: results are new memory.
func TestForestShares(t *testing.T) {
	s := system(sourceText+"link noun - num=sg\n", targetText, strings.Replace(givenText, "same 0.t", "same 0.s.num 1.s.num\nsame 0.t", 1))
	f := parsed(t, s, "the catdog see the dogs")
	g := pruned(t, f, 0)
	want, wantPruned := sheetOf(t, f).lines(), sheetOf(t, g).lines()
	goal := f.Goals()[0]
	trees := writtenAll(best(t, f, goal, 64))
	for _, h := range []*chart.Forest{f, g} {
		x := sheetOf(t, h)
		for i := range x.items {
			for _, l := range [][]api.Feat{x.items[i].Left, x.items[i].Right} {
				for j := range l {
					l[j] = api.Feat{Name: "spoiled"}
				}
			}
			spoilTree(&x.items[i].Lex)
			for _, e := range x.edges[i] {
				for j := range e.Kids {
					e.Kids[j] = 77
				}
			}
			clear(x.edges[i])
		}
		for i := range x.goals {
			l := best(t, h, x.goals[i], 64)
			for j := range l {
				spoilTree(&l[j])
			}
			x.goals[i] = 77
		}
	}
	if !slices.Equal(sheetOf(t, f).lines(), want) || !slices.Equal(sheetOf(t, g).lines(), wantPruned) || !slices.Equal(writtenAll(best(t, f, goal, 64)), trees) {
		t.Error("a result shares memory with a forest")
	}
	// trees of one result share none with one another
	f = parsed(t, ruled(twoText), "a a a a")
	l := best(t, f, f.Goals()[0], 64)
	before := writtenAll(l)
	for i := range l {
		if written(l[i]) != before[i] {
			t.Fatal("a tree shares memory with another one")
		}
		spoilTree(&l[i])
	}
	left := best(t, f, f.Goals()[0], 1)[0]
	spoilTree(&left.Kids[0])
	if !f.Has(f.Goals()[0], best(t, f, f.Goals()[0], 1)[0]) {
		t.Error("a tree shares memory with a forest")
	}
}

// R10: equal calls have equal results, whichever goroutine is the first one.
func TestTwins(t *testing.T) {
	words := strings.Repeat("a ", 12)
	first := sheetOf(t, parsed(t, ruled(twoText), words))
	for range 20 {
		f := parsed(t, ruled(twoText), words)
		if !sameSheet(sheetOf(t, f), first) {
			t.Fatal("two forests of one sentence")
		}
	}
}

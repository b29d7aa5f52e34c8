package decode_test

import (
	"math"
	"slices"
	"strconv"
	"strings"
	"testing"

	"truchman/api"
	"truchman/chart"
	"truchman/decode"
	"truchman/grammar"
)

// P5.2: the example of the chapter, and trees of parts of sentences.
func TestTotal(t *testing.T) {
	for text, want := range map[string]int{
		theTree:                           17,
		"(1 [0 0 > 0 0])":                 4,         // der hund: 3, 0, 1
		"(1 [0 1 > 0 1])":                 9,         // der hunde: 3, 5, 1
		"(2 [2 0 > 2 0] (1 [0 1 > 0 1]))": 2 + 13,    // der hunde sehen
		"(2 [2 0 > 2 0] (1 [0 0 > 0 0]))": 2 + 3 + 5, // der hund sehen: 3, 0, 4, 1
	} {
		if n, e := decode.Total(given(), theModel(), tree(text)); n != want || e != api.OK {
			t.Errorf("Total(%s): %d, error %d, want %d", text, n, e, want)
		}
	}
	s := ruled("start S\nrule S 7\nsource =a\ntarget\n") // a tree without words has the step from the beginning to the end
	if n, e := decode.Total(s, theModel(), tree("(0)")); n != 7+3 || e != api.OK {
		t.Error(n, e)
	}
}

// P5.2: grammar.Derive's errors stand ahead of those of the model.
func TestTotalErrors(t *testing.T) {
	bad := given()
	bad.Start = ""
	deep := strings.Repeat("(0 ", 63) + "(1)" + strings.Repeat(")", 63)
	chain := ruled("start S\nrule S 1\ncat S\nsource =a 1\ntarget 1 =b\nrule S 2\nsource =a\ntarget\n")
	wide := ruled("start S\nrule S 1\ncat S\ncat S\nsource 1 2\ntarget 1 2\nrule S 2\nsource =a\ntarget =b\n")
	broad := "(1)"
	for range 8 { // with 2^9 - 1 nodes
		broad = "(0 " + broad + " " + broad + ")"
	}
	more := tree(broad)
	more.Kids[0] = api.Tree{Rule: 0, Kids: []api.Tree{more.Kids[0], more.Kids[0]}}
	for _, x := range []struct {
		s    api.System
		tree api.Tree
		want int
		e    api.Errno
	}{
		{bad, tree(theTree), 0, api.ErrName},
		{given(), tree("[0 0 > 0 0]"), 0, api.ErrArg},
		{given(), tree("(9)"), 0, api.ErrArg},
		{given(), tree("(1 [0 1 > 0 0])"), 0, api.ErrClash},
		{given(), tree("(1 [9 1 > 0 0])"), 0, api.ErrNone},
		{chain, tree(deep), 63 + 2 + 6 + 62*4 + 1, api.OK},
		{chain, api.Tree{Kids: []api.Tree{tree(deep)}}, 0, api.ErrLimit},
		{wide, tree(broad), 255 + 512 + 6 + 255*4 + 1, api.OK},
		{wide, more, 0, api.ErrLimit},
	} {
		if n, e := decode.Total(x.s, theModel(), x.tree); n != x.want || e != x.e {
			t.Errorf("%.60s: %d, error %d, want %d, error %d", written(x.tree), n, e, x.want, x.e)
		}
		want := x.e
		if want == api.OK {
			want = api.ErrLimit
		}
		if n, e := decode.Total(x.s, api.Model{Words: words(513)}, x.tree); n != 0 || e != want {
			t.Errorf("%.60s: %d, error %d, want error %d", written(x.tree), n, e, want)
		}
	}
}

// P5.3: the example of the chapter, and sentences without a tree.
func TestBest(t *testing.T) {
	for _, k := range []int{1, 2, 64} {
		if got := writtenAll(best(t, given(), theModel(), theWords, k)); !slices.Equal(got, []string{theTree}) {
			t.Error(k, got)
		}
	}
	for _, text := range []string{"", "dog", "the dog", "the dog see", "a b c"} {
		if got := best(t, given(), theModel(), text, 1); len(got) != 0 {
			t.Error(text, writtenAll(got))
		}
	}
}

// choiceText is the text of rules by which the words a and b have some translations each, in either order.
const choiceText = `start S
rule S 1
cat A
cat B
source 1 2
target 1 2
rule S 0
cat A
cat B
source 1 2
target 2 1
rule A 2
source =a
target =p
rule A 0
source =a
target =q
rule B 1
source =b
target =r
rule B 0
source =b
target
`

// P5.3: what the model says makes a dearer tree the better one, and trees of equal totals stand in the order of trees.
func TestBestPlaces(t *testing.T) {
	m := api.Model{Unknown: 3, Words: []api.Uni{{Word: "p", Cost: 1}, {Word: "r", Cost: 2, Back: 1}}, Pairs: []api.Bi{{First: "p", Second: "r", Cost: 0}}}
	totals := map[string]int{"(1 (3) (5))": 6, "(0 (2) (5))": 7, "(0 (3) (5))": 7, "(0 (2) (4))": 9, "(1 (2) (5))": 6, "(0 (3) (4))": 11, "(1 (2) (4))": 10, "(1 (3) (4))": 10}
	want := []string{"(1 (2) (5))", "(1 (3) (5))", "(0 (2) (5))", "(0 (3) (5))", "(0 (2) (4))", "(1 (2) (4))", "(1 (3) (4))", "(0 (3) (4))"}
	s := ruled(choiceText)
	for k := range 9 {
		l := best(t, s, m, "a b", k+1)
		if got := writtenAll(l); !slices.Equal(got, want[:min(k+1, 8)]) {
			t.Errorf("%d: %q", k+1, got)
		}
		for _, x := range l {
			if n := total(t, s, m, x); n != totals[written(x)] {
				t.Errorf("%s: total %d, want %d", written(x), n, totals[written(x)])
			}
		}
	}
}

// P5.3: the trees of several goals, that differ by their bundles, are placed together.
func TestBestGoals(t *testing.T) {
	s := system(strings.Replace(plainText, "class", "trait f p q\nclass", 1), plainText, `start S
rule S 1
source =a
target =y
has 0.s.f q
rule S 0
source =a
target =z
rule S 2
source =a
target
has 0.s.f p
rule S 1
source =a
target =y
has 0.s.f q
`)
	for _, x := range []struct {
		m    api.Model
		want []string
	}{
		{api.Model{}, []string{"(1)", "(0)", "(3)", "(2)"}},
		{api.Model{Words: []api.Uni{{Word: "z", Cost: 1}}}, []string{"(0)", "(1)", "(3)", "(2)"}},
		{api.Model{Unknown: 3}, []string{"(2)", "(1)", "(0)", "(3)"}},
		{api.Model{Pairs: []api.Bi{{Cost: 9}, {First: "y", Cost: 0}}, Unknown: 2}, []string{"(0)", "(3)", "(1)", "(2)"}},
	} {
		if got := writtenAll(best(t, s, x.m, "a", 64)); !slices.Equal(got, x.want) {
			t.Errorf("%v: %q, want %q", x.m, got, x.want)
		}
	}
}

// longChain is a system by which a word has a tree that is deeper than others may read, and 95 more that are not.
func longChain() api.System {
	rules := "start C0\n"
	for i := range 95 {
		rules += "rule C" + strconv.Itoa(i) + " 1\ncat C" + strconv.Itoa(i+1) + "\nsource 1\ntarget =y 1\n"
	}
	return ruled(rules + "rule C95 7\nsource =a\ntarget\n")
}

// P5.2 to P5.6: trees have no bound on their nodes and their depth, but in Total.
func TestDeepTrees(t *testing.T) {
	s, m := longChain(), theModel()
	want := 95 + 7 + 6 + 94*4 + 1
	l := best(t, s, m, "a", 2)
	if len(l) != 1 {
		t.Fatal(len(l))
	}
	if nodes, depth := grammar.Nodes(l[0]); nodes != 96 || depth != 96 {
		t.Error(nodes, depth)
	}
	if n, e := decode.Total(s, m, l[0]); n != 0 || e != api.ErrLimit {
		t.Error(n, e)
	}
	states := proof(t, s, m, "a")
	if bound, found, e := decode.Bound(s, m, []string{"a"}, states); bound != want || !found || e != api.OK || len(states) != 96 {
		t.Error(bound, found, e, len(states))
	}
	x, total, gap, e := decode.Search(s, m, []string{"a"}, 1)
	if !sameTree(x, l[0]) || total != want || gap != want-102 || e != api.OK {
		t.Error(total, gap, e)
	}
}

// P5.3, P5.7: many trees, of which some are asked for, most of them with equal totals.
func TestBestMany(t *testing.T) {
	s := ruled("start S\nrule S 1\ncat S\ncat S\nsource 1 2\ntarget 2 1\nrule S 1\ncat S\ncat S\nsource 1 2\ntarget 1 2\nrule S 3\nsource =a\ntarget =b\nrule S 3\nsource =a\ntarget =c\n")
	text := strings.Repeat("a ", 16)
	f, e := chart.Parse(s, strings.Fields(text))
	if e != api.OK {
		t.Fatal(e)
	}
	ranked, e := f.Best(f.Goals()[0], 64)
	if e != api.OK {
		t.Fatal(e)
	}
	for _, m := range []api.Model{{}, {Words: []api.Uni{{}, {Word: "b"}}, Pairs: []api.Bi{{First: "b", Second: "c"}}}, {Unknown: 5}} {
		if got := best(t, s, m, text, 64); !slices.EqualFunc(got, ranked, sameTree) {
			t.Errorf("%v: %q", m, writtenAll(got[:3]))
		}
	}
	m := api.Model{Pairs: []api.Bi{{First: "c", Second: "c", Cost: 1}}}
	last := -1
	for i, x := range best(t, s, m, text, 64) {
		if n := total(t, s, m, x); n < last || i == 0 && n != 63 {
			t.Error(i, n)
		} else {
			last = n
		}
	}
}

// P5.6: the example of the chapter, and limits that cut the best tree off.
func TestSearch(t *testing.T) {
	for _, limit := range []int{1, 2, 64} {
		x, total, gap, e := decode.Search(given(), theModel(), strings.Fields(theWords), limit)
		if written(x) != theTree || total != 17 || gap != 14 || e != api.OK {
			t.Error(limit, written(x), total, gap, e)
		}
	}
	s := ruled(`start S
rule S 0
cat A
source =a 1
target =a 1
rule A 3
source =b
target =b
rule A 0
source =b
target =d
rule A 0
source =b
target =c
rule A 0
source =b
target =c =e
rule A 1
source =b
target =c =c
`)
	m := api.Model{Pairs: []api.Bi{{First: "a", Second: "c", Cost: 9}, {First: "a", Second: "d", Cost: 9}, {First: "c", Second: "c", Cost: 1}}}
	// The states of A: c to c and d to d at 0, c to e at 0, b to b at 3. The tree of c alone is the better one of both from c to c.
	for limit, want := range map[int]struct {
		tree       string
		total, gap int
	}{1: {"(0 (3))", 9, 9}, 2: {"(0 (3))", 9, 9}, 3: {"(0 (2))", 9, 9}, 4: {"(0 (1))", 3, 3}, 64: {"(0 (1))", 3, 3}} {
		x, total, gap, e := decode.Search(s, m, []string{"a", "b"}, limit)
		if written(x) != want.tree || total != want.total || gap != want.gap || e != api.OK {
			t.Errorf("limit %d: %s, %d, %d, error %d", limit, written(x), total, gap, e)
		}
	}
	for _, text := range []string{"", "a", "b", "a b b"} {
		x, total, gap, e := decode.Search(s, m, strings.Fields(text), 1)
		if !sameTree(x, api.Tree{}) || total != 0 || gap != 0 || e != api.ErrNone {
			t.Errorf("%s: %s, %d, %d, error %d", text, written(x), total, gap, e)
		}
	}
}

// P5.6: states of equal costs are kept by First, then by Last.
func TestSearchStates(t *testing.T) {
	s := ruled(`start S
rule S 0
cat A
source =a 1
target 1
rule A 0
source =b
target =s
rule A 0
source =b
target =q =p
rule A 0
source =b
target =p =r
rule A 0
source =b
target =p =q
`)
	m := api.Model{Pairs: []api.Bi{{First: "p", Cost: 3}, {First: "q", Cost: 9}, {First: "r", Cost: 6}}}
	for i, want := range []string{"(0 (4))", "(0 (3))", "(0 (2))", "(0 (1))", "(0 (1))"} {
		x, total, gap, e := decode.Search(s, m, []string{"a", "b"}, i+1)
		if written(x) != want || total != max(9-3*i, 0) || gap != total || e != api.OK {
			t.Errorf("limit %d: %s, %d, %d, error %d", i+1, written(x), total, gap, e)
		}
	}
}

// P5.6: a state is kept with one tree, the cheapest one with its steps inside; of equal ones the first one in the order of trees.
func TestSearchTrees(t *testing.T) {
	s := ruled(`start S
rule S 0
cat A
cat A
source 1 2
target 2 1
rule A 0
source =b
target =p =q =p
rule A 2
source =b
target =p
rule A 1
source =b
target =p =p
rule A 1
source =b
target =p =r =p
rule S 9
cat A
source =c 1
target 1
`)
	m := api.Model{Pairs: []api.Bi{{First: "p", Second: "q", Cost: 3}}}
	for text, want := range map[string]string{"b b": "(0 (3) (3))", "c b": "(5 (3))"} {
		for _, limit := range []int{1, 2, 64} {
			x, _, gap, e := decode.Search(s, m, strings.Fields(text), limit)
			if written(x) != want || e != api.OK {
				t.Errorf("%s: limit %d: %s, gap %d, error %d", text, limit, written(x), gap, e)
			}
		}
	}
}

// P5.3, P5.6: numbers that are asked for.
func TestCounts(t *testing.T) {
	w := strings.Fields(theWords)
	for n, want := range map[int]api.Errno{1: api.OK, 64: api.OK, 0: api.ErrArg, -1: api.ErrArg, math.MinInt: api.ErrArg, 65: api.ErrLimit, math.MaxInt: api.ErrLimit} {
		if l, e := decode.Best(given(), theModel(), w, n); e != want || (len(l) > 0) != (e == api.OK) {
			t.Errorf("Best(%d): %d trees, error %d", n, len(l), e)
		}
		if x, total, gap, e := decode.Search(given(), theModel(), w, n); e != want || e != api.OK && (total != 0 || gap != 0 || !sameTree(x, api.Tree{})) {
			t.Errorf("Search(%d): %s, %d, %d, error %d", n, written(x), total, gap, e)
		}
		if want == api.OK {
			continue
		}
		if _, _, _, e := decode.Search(given(), theModel(), nil, n); e != want { // ahead of there being no goal
			t.Errorf("Search(%d): error %d", n, e)
		}
	}
}

// P5.3 to P5.6: the errors of all four functions, in their order.
func TestErrorsInOrder(t *testing.T) {
	bad := given()
	bad.Rules[2].Cost = -1
	loop := ruled("start S\n")
	loop.Rules = []api.Rule{{Left: "A", Parts: []api.Part{{Cat: "A"}}, Source: []api.Item{{Part: 1}}, Target: []api.Item{{Part: 1}}}}
	// Sixteen words are parted in 680 ways, thirteen in 364.
	full := ruled("start S\nrule S 0\nsource =a\ntarget =a\n" + strings.Repeat("rule S 0\ncat S\ncat S\nsource 1 2\ntarget 1 2\n", 60))
	sixteen := slices.Repeat([]string{"a"}, 16)
	twice := api.Model{Pairs: []api.Bi{{}, {}}}
	long := make([]api.State, api.MaxStates+1)
	for _, x := range []struct {
		s     api.System
		m     api.Model
		words []string
		want  api.Errno // behind these, those of the other arguments
	}{
		{bad, twice, make([]string, 17), api.ErrArg},
		{loop, twice, make([]string, 17), api.ErrLoop},
		{given(), twice, make([]string, 17), api.ErrLimit},
		{given(), twice, []string{"dog", "a b"}, api.ErrArg},
		{full, twice, sixteen[:13], api.ErrTwice},
		{full, twice, sixteen, api.ErrLimit},
		{full, theModel(), sixteen, api.ErrLimit},
		{given(), twice, nil, api.ErrTwice},
		{given(), api.Model{Unknown: -1}, sixteen, api.ErrArg},
		{given(), api.Model{Words: words(513)}, strings.Fields(theWords), api.ErrLimit},
	} {
		if l, e := decode.Prove(x.s, x.m, x.words); e != x.want || len(l) != 0 {
			t.Errorf("Prove: %d states, error %d, want %d", len(l), e, x.want)
		}
		for _, n := range []int{0, 1, 65} {
			if l, e := decode.Best(x.s, x.m, x.words, n); e != x.want || len(l) != 0 {
				t.Errorf("Best: %d trees, error %d, want %d", len(l), e, x.want)
			}
			if y, total, gap, e := decode.Search(x.s, x.m, x.words, n); e != x.want || total != 0 || gap != 0 || !sameTree(y, api.Tree{}) {
				t.Errorf("Search: error %d, want %d", e, x.want)
			}
		}
		for _, l := range [][]api.State{nil, {{Item: -1}}, long} {
			if bound, found, e := decode.Bound(x.s, x.m, x.words, l); e != x.want || bound != 0 || found {
				t.Errorf("Bound: %d, %v, error %d, want %d", bound, found, e, x.want)
			}
		}
	}
}

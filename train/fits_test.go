package train_test

import (
	"fmt"
	"math"
	"slices"
	"strconv"
	"strings"
	"testing"

	"truchman/api"
	"truchman/grammar"
	"truchman/train"
)

// P6.1: the example of the chapter.
func TestGiven(t *testing.T) {
	for k, want := range map[int][]string{1: {theTree}, 3: {theTree}, 64: {theTree}} {
		if got := writtenAll(fits(t, given(), theCouple(), k)); !slices.Equal(got, want) {
			t.Errorf("Fits(%d): %q", k, got)
		}
	}
	if got := counted(given(), theCouple()); got != "1 [1 2 1] 0" {
		t.Error(got)
	}
}

// twoText is the text of rules by which a sentence of a has many trees, some of equal costs.
const twoText = `start S
rule S 1
cat S
cat S
source 1 2
target 2 1
rule S 1
cat S
cat S
source 1 2
target 1 2
rule S 3
source =a
target =b
rule S 3
source =a
target =c
rule T 5
cat S
source 1
target 1
`

// silentText is the text of rules whose parts may have no target words.
const silentText = `start S
rule S 2
cat S
cat S
source 1 2
target 1 2
rule S 1
source =a
target
rule S 1
source =a
target =x
rule S 1
source =b
target =x =x
rule S 0
cat T
cat S
cat T
source 1 2 3
target 3 =y 1 2
rule T 0
source =t
target
rule T 0
source =t
target =y
`

// lexicalText is the text of rules with forms that are the same, and of features that put trees of S into several goals.
const lexicalText = `start S
rule S 1
lex x x
source 1
target 1
rule S 0
lex x x
source 1
target 1
same 0.t.f 1.t.f
rule S 1
cat S
lex x x
source 1 2
target 2 1
`

func lexicalSystem() api.System {
	return system("vowels a\nclass n\nslot 0 - -\nslot 0 - -\nentry x n\nlink n -\n", "vowels a\ntrait f p q\nclass n\nslot 0 - - f=p\nslot 0 - - f=q\nslot 0 - u\nentry x n\n", lexicalText)
}

// P6.1: trees that fit, as they are ranked, how many there are, and how they use rules.
func TestFits(t *testing.T) {
	two, silent, lexical := ruled(twoText), ruled(silentText), lexicalSystem()
	for _, x := range []struct {
		s      api.System
		couple string
		fits   []string // the first 3
		count  string
	}{
		{two, "a / b", []string{"(2)"}, "1 [0 0 1 0 0]"},
		{two, "a / d", nil, "0 [0 0 0 0 0]"},
		{two, "a /", nil, "0 [0 0 0 0 0]"},
		{two, "a / b b", nil, "0 [0 0 0 0 0]"},
		{two, "a a / b", nil, "0 [0 0 0 0 0]"},
		{two, "d / b", nil, "0 [0 0 0 0 0]"},
		{two, "/ b", nil, "0 [0 0 0 0 0]"},
		{two, "/", nil, "0 [0 0 0 0 0]"},
		{two, "a a / b c", []string{"(0 (3) (2))", "(1 (2) (3))"}, "2 [1 1 2 2 0]"},
		{two, "a a / c b", []string{"(0 (2) (3))", "(1 (3) (2))"}, "2 [1 1 2 2 0]"},
		{two, "a a / b b", []string{"(0 (2) (2))", "(1 (2) (2))"}, "2 [1 1 4 0 0]"},
		{two, "a a a / b b c", []string{"(0 (0 (3) (2)) (2))", "(0 (1 (2) (3)) (2))", "(0 (3) (0 (2) (2)))"}, "8 [8 8 16 8 0]"},
		{two, "a a a / b c b", []string{"(0 (0 (2) (3)) (2))", "(0 (1 (3) (2)) (2))", "(0 (2) (0 (3) (2)))"}, "8 [8 8 16 8 0]"},
		{priced(two, []int{4, 3, 0, 0, 0}), "a a a / b b c", []string{"(1 (1 (2) (2)) (3))", "(1 (2) (1 (2) (3)))", "(0 (1 (2) (3)) (2))"}, "8 [8 8 16 8 0]"},
		{priced(two, []int{3, 4, 0, 0, 0}), "a a / b c", []string{"(0 (3) (2))", "(1 (2) (3))"}, "2 [1 1 2 2 0]"},
		{silent, "a /", []string{"(1)"}, "1 [0 1 0 0 0 0 0]"},
		{silent, "a a /", []string{"(0 (1) (1))"}, "1 [1 2 0 0 0 0 0]"},
		{silent, "a a a /", []string{"(0 (0 (1) (1)) (1))", "(0 (1) (0 (1) (1)))"}, "2 [4 6 0 0 0 0 0]"},
		{silent, "a a / x", []string{"(0 (1) (2))", "(0 (2) (1))"}, "2 [2 2 2 0 0 0 0]"},
		{silent, "a b / x x", []string{"(0 (1) (3))"}, "1 [1 1 0 1 0 0 0]"},
		{silent, "a b / x", nil, "0 [0 0 0 0 0 0 0]"},
		{silent, "t a t / y", []string{"(4 (5) (1) (5))"}, "1 [0 1 0 0 1 2 0]"},
		{silent, "t a t / y y", []string{"(4 (5) (1) (6))", "(4 (6) (1) (5))"}, "2 [0 2 0 0 2 2 2]"},
		{silent, "t a t / y y y", []string{"(4 (6) (1) (6))"}, "1 [0 1 0 0 1 0 2]"},
		{silent, "t a t / y y x", []string{"(4 (5) (2) (6))", "(4 (6) (2) (5))"}, "2 [0 0 2 0 2 2 2]"},
		{silent, "t b t / y x x", []string{"(4 (5) (3) (5))"}, "1 [0 0 0 1 1 2 0]"},
		{silent, "t b t / x x y", nil, "0 [0 0 0 0 0 0 0]"},
		// Each word x is what two slots of x are, and x of the target what two slots are.
		{lexical, "x / x", []string{"(1 [0 0 > 0 0])", "(1 [0 0 > 0 1])", "(1 [0 1 > 0 0])"}, "8 [4 4 0]"},
		{lexical, "x / xu", []string{"(1 [0 0 > 0 2])", "(1 [0 1 > 0 2])", "(0 [0 0 > 0 2])"}, "4 [2 2 0]"},
		{lexical, "xx / x", []string{"(1 [0.0.0 0 0 > 0 0])", "(1 [0.0.0 0 0 > 0 1])", "(1 [0.0.0 0 1 > 0 0])"}, "16 [8 8 0]"},
		{lexical, "x x / xu x", []string{"(2 (1 [0 0 > 0 0]) [0 0 > 0 2])", "(2 (1 [0 0 > 0 0]) [0 1 > 0 2])", "(2 (1 [0 0 > 0 1]) [0 0 > 0 2])"}, "16 [8 8 16]"},
		{lexical, "x x / x", nil, "0 [0 0 0]"},
	} {
		c := couple(x.couple)
		for k := 1; k <= 3; k++ {
			if got := writtenAll(fits(t, x.s, c, k)); !slices.Equal(got, x.fits[:min(k, len(x.fits))]) {
				t.Errorf("%s: the first %d: %q, want %q", x.couple, k, got, x.fits)
			}
		}
		if got := counted(x.s, c); got != x.count+" 0" {
			t.Errorf("%s: %s, want %s", x.couple, got, x.count)
		}
	}
	if got := counted(ruled("start S\n"), couple("a / a")); got != "0 [] 0" {
		t.Error("without rules:", got)
	}
}

// P6.1: trees of all goals together are ranked by their costs alone, and by their order.
func TestFitsGoals(t *testing.T) {
	target := "vowels a\ntrait f p q\nclass n\nslot 0 - -\nentry x n\n"
	s := system(plainText, target, `start S
rule S 2
source =a
target =b
has 0.t.f p
rule S 1
source =a
target =b
has 0.t.f q
rule S 2
source =a
target =b
has 0.t.f p
rule S 1
source =a
target =b
has 0.t.f p
rule S 0
source =a
target =c
has 0.t.f q
`)
	for k, want := range map[int]string{1: "(1)", 2: "(1) (3)", 3: "(1) (3) (0)", 4: "(1) (3) (0) (2)", 64: "(1) (3) (0) (2)"} {
		if got := strings.Join(writtenAll(fits(t, s, couple("a / b"), k)), " "); got != want {
			t.Errorf("the first %d: %s", k, got)
		}
	}
	if got := counted(s, couple("a / b")); got != "4 [1 1 1 1 0] 0" {
		t.Error(got)
	}
}

// P6.1: no trees are left out, and none come twice, where most of them cost the same.
func TestFitsMany(t *testing.T) {
	s, c := ruled(twoText), couple("a a a a a / b b c b b")
	// 14 ways to part five words, 2 rules at each of 4 nodes; each word may be the one that is c.
	all := fits(t, s, c, 64)
	if got := counted(s, c); got != "224 [448 448 896 224 0] 0" {
		t.Error(got)
	}
	if len(all) != 64 {
		t.Fatal(len(all))
	}
	for i, x := range all {
		r, e := grammar.Derive(s, x)
		if e != api.OK || r.Cost != 19 || !slices.Equal(r.Source, c.Source) || !slices.Equal(r.Target, c.Target) {
			t.Error(written(x), r, e)
		}
		if i > 0 && grammar.Compare(all[i-1], x) >= 0 {
			t.Errorf("%s ahead of %s", written(all[i-1]), written(x))
		}
	}
	for k := range 64 {
		if k > 0 && !slices.EqualFunc(fits(t, s, c, k), all[:k], sameTree) {
			t.Errorf("the first %d are others", k)
		}
	}
}

// deepText is the text of rules by which a word has a tree that is deeper than others may read, and another one.
func deepText(levels int) string {
	rules := "start C0\n"
	for i := range levels {
		rules += "rule C" + strconv.Itoa(i) + " 1\ncat C" + strconv.Itoa(i+1) + "\nsource 1\ntarget =y 1\n"
	}
	return rules + "rule C" + strconv.Itoa(levels) + " 7\nsource =a\ntarget =z\n"
}

// P6.1: trees have no bound on their nodes and their depth.
func TestDeepTrees(t *testing.T) {
	s := ruled(deepText(95))
	c := couple("a / " + strings.Repeat("y ", 95) + "z")
	l := fits(t, s, c, 2)
	if len(l) != 1 {
		t.Fatal(len(l))
	}
	if nodes, depth := grammar.Nodes(l[0]); nodes != 96 || depth != 96 {
		t.Error(nodes, depth)
	}
	if got := counted(s, c); got != fmt.Sprint(1, slices.Repeat([]int{1}, 96), 0) {
		t.Error(got)
	}
	s = ruled(deepText(60) + "rule C0 0\ncat C0\ncat C0\nsource 1 2\ntarget 1 2\n")
	c = couple(strings.Repeat("a ", 16) + "/" + strings.Repeat(strings.Repeat(" y", 60)+" z", 16))
	l = fits(t, s, c, 1)
	if nodes, depth := grammar.Nodes(l[0]); nodes != 16*61+15 || depth != 61+15 {
		t.Error(nodes, depth)
	}
}

// P6.1: numbers at their bound, and right below it.
func TestCountBound(t *testing.T) {
	const most = math.MaxUint64
	// Each word h has 16 trees as an H, and four of them 2^16 as a W.
	wide := "rule H 0\ncat J\nsource 1\ntarget 1\n" + strings.Repeat("rule J 0\nsource =h\ntarget =h\n", 16)
	four := "rule W 0\ncat H\ncat H\ncat H\ncat H\nsource 1 2 3 4\ntarget 4 3 2 1\n"
	// Of the half of a sentence V the last word has 8 trees.
	half := "rule V 0\ncat H\ncat H\ncat H\ncat G\nsource 1 2 3 4\ntarget 1 2 3 4\nrule G 0\ncat I\nsource 1\ntarget 1\n" + strings.Repeat("rule I 0\nsource =h\ntarget =h\n", 8)
	h := func(n int) api.Couple {
		words := slices.Repeat([]string{"h"}, n)
		return api.Couple{Source: words, Target: words}
	}
	uses := func(n int, l ...uint64) []uint64 { // of the rules ahead, and 16 times the last one
		for range n - 1 {
			l = append(l, l[len(l)-1])
		}
		return l
	}
	for _, x := range []struct {
		name, rules string
		words       int
		trees       uint64
		uses        []uint64
	}{
		{"2^4", "rule S 0\ncat H\nsource 1\ntarget 1\n" + wide, 1, 16, uses(16, 16, 16, 1)},
		{"2^60", "rule S 0\ncat W\ncat W\ncat W\ncat V\nsource 1 2 3 4\ntarget 1 2 3 4\nrule V 0\ncat H\ncat H\ncat H\nsource 1 2 3\ntarget 1 2 3\n" + four + wide, 15,
			1 << 60, uses(16, 1<<60, 1<<60, 3<<60, 15<<60, 15<<56)},
		{"2^64", "rule S 0\ncat W\ncat W\ncat W\ncat W\nsource 1 2 3 4\ntarget 1 2 3 4\n" + four + wide, 16,
			most, uses(16, most, most, most, 1<<64-1)},
		{"2^61", strings.Repeat("rule S 0\ncat W\ncat W\ncat W\ncat V\nsource 1 2 3 4\ntarget 1 2 3 4\n", 2) + "rule V 0\ncat H\ncat H\ncat H\nsource 1 2 3\ntarget 1 2 3\n" + four + wide, 15,
			1 << 61, uses(16, 1<<60, 1<<60, 1<<61, 3<<61, most, 15<<57)},
		{"2^63", "rule S 0\ncat W\ncat W\ncat W\ncat V\nsource 1 2 3 4\ntarget 1 2 3 4\n" + half + four + wide, 16,
			1 << 63, uses(16, 1<<63, 1<<63, 1<<63, 1<<60, 1<<60, 1<<60, 1<<60, 1<<60, 1<<60, 1<<60, 1<<60, most, most, 15<<59)},
		{"2^63 and 2^63", strings.Repeat("rule S 0\ncat W\ncat W\ncat W\ncat V\nsource 1 2 3 4\ntarget 1 2 3 4\n", 2) + half + four + wide, 16,
			most, uses(16, 1<<63, 1<<63, most, most, 1<<61, 1<<61, 1<<61, 1<<61, 1<<61, 1<<61, 1<<61, 1<<61, most, most, 15<<60)},
		{"2^60 and 2^56", "rule S 0\ncat W\ncat W\ncat W\ncat V\nsource 1 2 3 4\ntarget 1 2 3 4\nrule S 0\ncat W\ncat W\ncat W\ncat V\nsource 1 2 3 4\ntarget 4 1 2 3\nrule V 0\ncat H\ncat H\ncat H\nsource 1 2 3\ntarget 1 2 3\nrule V 0\ncat H\ncat H\nsource 1 =h 2\ntarget 1 =h 2\n" + four + wide, 15,
			2<<60 + 2<<56, uses(16, 1<<60+1<<56, 1<<60+1<<56, 2<<60, 2<<56, 3*(2<<60+2<<56), most, 12*(2<<56+2<<52)+3*(2<<56)+2*(2<<52))},
	} {
		trees, uses, e := train.Count(ruled("start S\n"+x.rules), h(x.words))
		if trees != x.trees || !slices.Equal(uses, x.uses) || e != api.OK {
			t.Errorf("%s: %d, %d, error %d, want %d, %d", x.name, trees, uses, e, x.trees, x.uses)
		}
	}
}

// longText is the text of rules by which each word has a tree with 256 target words, and 16 words one with 4096.
func longText() string {
	rules := "start S\nrule S 1\ncat C0\ncat S\nsource 1 2\ntarget 1 2\nrule S 1\ncat C0\nsource 1\ntarget 1\n"
	words := []string{" =y =y =y"}
	for range 35 {
		words = append(words, strings.Repeat(" =y", 7))
	}
	for i, x := range words {
		rules += "rule C" + strconv.Itoa(i) + " 1\ncat C" + strconv.Itoa(i+1) + "\nsource 1\ntarget" + x + " 1\n"
	}
	return rules + "rule C36 1\nsource =a\ntarget" + strings.Repeat(" =y", 8) + "\n"
}

// P6.1: a target as long as it may be, and longer.
func TestLongTargets(t *testing.T) {
	s := ruled(longText())
	for n, want := range map[int]struct {
		trees uint64
		e     api.Errno
	}{0: {}, 4080: {}, 4095: {}, 4096: {1, 0}, 4097: {0, api.ErrLimit}, 9000: {0, api.ErrLimit}} {
		c := api.Couple{Source: slices.Repeat([]string{"a"}, 16), Target: slices.Repeat([]string{"y"}, n)}
		if l, e := train.Fits(s, c, 2); e != want.e || len(l) != int(want.trees) {
			t.Errorf("Fits: %d words: %d trees, error %d", n, len(l), e)
		}
		trees, uses, e := train.Count(s, c)
		if e != want.e || trees != want.trees || (len(uses) == len(s.Rules)) != (e == api.OK) {
			t.Errorf("Count: %d words: %d, %d, error %d", n, trees, uses, e)
		}
		if trees == 1 && (uses[0] != 15 || uses[1] != 1 || uses[2] != 16 || uses[38] != 16) {
			t.Error(uses)
		}
	}
}

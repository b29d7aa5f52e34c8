package grammar_test

import (
	"math"
	"strconv"
	"strings"
	"testing"

	"truchman/api"
	"truchman/grammar"
)

// P3.4: nodes and depth of any tree.
func TestNodes(t *testing.T) {
	odd := api.Tree{Rule: -1, Kids: []api.Tree{{Rule: -9, Kids: []api.Tree{{}, {}}}, {}}}
	for _, x := range []struct {
		name         string
		t            api.Tree
		nodes, depth int
	}{
		{"nothing", api.Tree{}, 1, 1}, {"lexical", leaf(0, 0, 0, 0), 1, 1}, {"the chapter's", tree(t, theTree), 7, 4},
		{"kids of a lexical tree count, too", odd, 5, 3},
		{"a row", row(65), 65, 65}, {"a fan", fan(513), 513, 2}, {"a long row", row(5000), 5000, 5000}, {"a wide fan", fan(100000), 100000, 2},
		{"the last kid is the deepest", tree(t, "(0 (1) (2 (3)))"), 4, 3}, {"the first kid is the deepest", tree(t, "(0 (2 (3)) (1))"), 4, 3},
	} {
		if nodes, depth := grammar.Nodes(x.t); nodes != x.nodes || depth != x.depth {
			t.Errorf("%s: %d, %d, want %d, %d", x.name, nodes, depth, x.nodes, x.depth)
		}
	}
}

// P3.5: trees in their order.
func TestCompare(t *testing.T) {
	var rising []api.Tree
	for _, s := range []string{
		"[0 0 > 0 0]", "[0 0 > 0 1]", "[0 0 > 1 0]", "[0 1 > 0 0]", "[0 2 > 0 0]", "[0 10 > 0 0]", "[1 0 > 0 0]",
		"[0.0.0 0 0 > 0 0]", "[0.0.0 0 0 > 0 9]", "[0.0.0 9 0 > 0 0]", "[0.0.1 0 0 > 0 0]", "[0.1.0 0 0 > 0 0]", "[1.0.0 0 0 > 0 0]",
		"[0.0.0 0.0.0 0 0 > 0 0]", "[0.0.0 0.0.1 0 0 > 0 0]", "[0.0.1 0.0.0 0 0 > 0 0]", "[0.0.0 0.0.0 0.0.0 0 0 > 0 0]",
		"(0)", "(0 [0 0 > 0 0])", "(0 [0 0 > 0 0] [0 0 > 0 0])", "(0 [0 0 > 0 0] (0))", "(0 [0 1 > 0 0])", "(0 (0))", "(0 (0) (0))", "(0 (0 (0)))", "(0 (1))",
		"(1)", "(1 (0))", "(2)", "(10)",
	} {
		rising = append(rising, tree(t, s))
	}
	rising = append([]api.Tree{{Rule: math.MinInt}, {Rule: -2}, {Rule: -1, From: api.Analysis{Entry: -1}}}, rising...)
	rising = append(rising, api.Tree{Rule: math.MaxInt})
	for i, x := range rising {
		for j, y := range rising {
			want := 0
			if i < j {
				want = -1
			} else if i > j {
				want = 1
			}
			if got := grammar.Compare(x, y); got != want {
				t.Errorf("%v and %v: %d, want %d", x, y, got, want)
			}
		}
	}
}

// P3.5: what does not count in the order of trees.
func TestCompareEqual(t *testing.T) {
	kids := []api.Tree{{Rule: 3}}
	lex := leaf(1, 2, 3, 4)
	odd := lex
	odd.Kids = kids
	if got := grammar.Compare(lex, odd); got != 0 {
		t.Error("kids of lexical trees count:", got)
	}
	node := api.Tree{Rule: 5, Kids: kids}
	odd = api.Tree{Rule: 5, Kids: kids, From: api.Analysis{Firsts: []api.First{{}}, Entry: 1, Slot: 1}, Entry: 1, Slot: 1}
	if got := grammar.Compare(node, odd); got != 0 {
		t.Error("From, Entry or Slot of a tree of a rule count:", got)
	}
	if got := grammar.Compare(api.Tree{Kids: []api.Tree{}}, api.Tree{}); got != 0 {
		t.Error("nil and empty lists are not the same:", got)
	}
}

// P3.5: trees and their texts.
func TestWrite(t *testing.T) {
	const most = 1<<31 - 1
	first := api.First{Entry: 1, Slot: 2, Link: 3}
	for _, x := range []struct {
		t    api.Tree
		text string
	}{
		{api.Tree{}, "(0)"},
		{api.Tree{Rule: most}, "(2147483647)"},
		{leaf(0, 0, 0, 0), "[0 0 > 0 0]"},
		{leaf(1, 2, 3, 4), "[1 2 > 3 4]"},
		{leaf(most, most, most, most), "[2147483647 2147483647 > 2147483647 2147483647]"},
		{api.Tree{Rule: -1, From: api.Analysis{Firsts: []api.First{first}, Entry: 4, Slot: 5}, Entry: 6, Slot: 7}, "[1.2.3 4 5 > 6 7]"},
		{api.Tree{Rule: -1, From: api.Analysis{Firsts: []api.First{first, {Entry: most, Slot: most, Link: most}, {}}}}, "[1.2.3 2147483647.2147483647.2147483647 0.0.0 0 0 > 0 0]"},
		{api.Tree{Rule: 1, Kids: []api.Tree{{}, leaf(1, 2, 3, 4), {Rule: 2, Kids: []api.Tree{{Rule: 10}}}}}, "(1 (0) [1 2 > 3 4] (2 (10)))"},
		{api.Tree{Kids: []api.Tree{}, From: api.Analysis{Firsts: []api.First{}}}, "(0)"},
		{row(64), strings.Repeat("(0 ", 63) + "(0" + strings.Repeat(")", 64)},
		{fan(512), "(0" + strings.Repeat(" (0)", 511) + ")"},
	} {
		if got, e := grammar.Write(x.t); e != api.OK || got != x.text {
			t.Errorf("%q, error %d, want %q", got, e, x.text)
		}
		if got, e := grammar.Read(x.text); e != api.OK || !sameTree(got, x.t) {
			t.Errorf("%q: %v, error %d", x.text, got, e)
		}
	}
}

// P3.5: Write returns a text however long it is.
func TestWriteLong(t *testing.T) {
	long := api.Tree{Rule: -1, From: api.Analysis{Firsts: make([]api.First, 20000)}}
	want := "[" + strings.Repeat("0.0.0 ", 20000) + "0 0 > 0 0]"
	if got, e := grammar.Write(long); e != api.OK || got != want {
		t.Errorf("%d bytes, error %d", len(got), e)
	}
	if got, e := grammar.Read(want); e != api.ErrLimit || !sameTree(got, api.Tree{}) {
		t.Errorf("read: error %d", e)
	}
	whole := tree(t, "["+strings.Repeat("0.0.0 ", 10920)+"0 0 > 0 0]") // as many first parts as a text may have
	if len(whole.From.Firsts) != 10920 {
		t.Error(len(whole.From.Firsts))
	}
}

// P3.5: the errors of Write: limits ahead of numbers.
func TestWriteErrors(t *testing.T) {
	const over = 1 << 31
	lexOf := func(change func(x *api.Tree)) api.Tree {
		x := leaf(0, 0, 0, 0)
		x.From.Firsts = []api.First{{}, {}}
		change(&x)
		return x
	}
	bad := []api.Tree{
		{Rule: -2}, {Rule: over}, {Rule: math.MinInt}, {Rule: math.MaxInt},
		{Entry: 1}, {Slot: 1}, {From: api.Analysis{Entry: 1}}, {From: api.Analysis{Slot: 1}}, {From: api.Analysis{Firsts: []api.First{{}}}},
		{Rule: -1, Kids: []api.Tree{{}}},
	}
	for _, n := range []int{-1, over, math.MinInt, math.MaxInt} {
		bad = append(bad,
			lexOf(func(x *api.Tree) { x.From.Firsts[1].Entry = n }), lexOf(func(x *api.Tree) { x.From.Firsts[1].Slot = n }), lexOf(func(x *api.Tree) { x.From.Firsts[1].Link = n }),
			lexOf(func(x *api.Tree) { x.From.Entry = n }), lexOf(func(x *api.Tree) { x.From.Slot = n }), lexOf(func(x *api.Tree) { x.Entry = n }), lexOf(func(x *api.Tree) { x.Slot = n }),
		)
	}
	for _, x := range bad {
		if got, e := grammar.Write(x); e != api.ErrArg || got != "" {
			t.Errorf("%v: %q, error %d", x, got, e)
		}
		if got, e := grammar.Write(api.Tree{Kids: []api.Tree{{}, x}}); e != api.ErrArg || got != "" {
			t.Errorf("%v below: %q, error %d", x, got, e)
		}
	}
	wide, deep := fan(513), row(65)
	wide.Kids[0].Rule, deep.Rule = -2, -2
	for _, x := range []api.Tree{wide, deep, fan(513), row(65), row(100000)} {
		if got, e := grammar.Write(x); e != api.ErrLimit || got != "" {
			t.Errorf("error %d", e)
		}
	}
}

// Trees of which parts stand in many places are told to be too large without going through all of it.
func TestTooLarge(t *testing.T) {
	x := api.Tree{}
	for range 60 {
		x = api.Tree{Kids: []api.Tree{x, x}}
	}
	if _, e := grammar.Write(x); e != api.ErrLimit {
		t.Error(e)
	}
	if _, e := grammar.Flip(x); e != api.ErrLimit {
		t.Error(e)
	}
	if _, e := grammar.Derive(given(), x); e != api.ErrLimit {
		t.Error(e)
	}
}

// P3.5: texts that are no text of a tree.
func TestReadErrors(t *testing.T) {
	for _, s := range []string{
		"", " ", "(", ")", "[", "]", "()", "[]", "( 0)", "(0 )", "(0", "0", "0)", "(0))", "(0) ", " (0)", "(0)(0)", "(0) (0)", "(0(0))", "(0  (0))", "(0 (0)", "(0 (0) )", "(0 0)",
		"(00)", "(01)", "(-1)", "(-0)", "(+1)", "(x)", "(0x1)", "(1_0)", "(2147483648)", "(4294967296)", "(99999999999999999999)", "(１)",
		"[0 0 > 0 0", "0 0 > 0 0]", "[0 0 > 0 0] ", "[0 0 > 0]", "[0 0 > 0 0 0]", "[0 0 0 > 0 0]", "[0 > 0 0]", "[0 0 0 0]", "[0 0>0 0]", "[0 0  > 0 0]", "[0 0 >  0 0]", "[ 0 0 > 0 0]", "[0 0 > 0 0 ]",
		"[00 0 > 0 0]", "[0 00 > 0 0]", "[0 0 > 00 0]", "[0 0 > 0 00]", "[-1 0 > 0 0]", "[0 -1 > 0 0]", "[0 0 > -1 0]", "[0 0 > 0 -1]",
		"[2147483648 0 > 0 0]", "[0 2147483648 > 0 0]", "[0 0 > 2147483648 0]", "[0 0 > 0 2147483648]",
		"[0.0.0]", "[0.0 0 0 > 0 0]", "[0.0.0.0 0 0 > 0 0]", "[0.0.00 0 0 > 0 0]", "[00.0.0 0 0 > 0 0]", "[0.00.0 0 0 > 0 0]", "[0.0.-1 0 0 > 0 0]", "[0.0.2147483648 0 0 > 0 0]",
		"[0..0 0 0 > 0 0]", "[.0.0 0 0 > 0 0]", "[0.0. 0 0 > 0 0]", "[0.0.0  0 0 > 0 0]", "[0.0.00 0 > 0 0]", "[0.0.0 0 0.0.0 0 > 0 0]", "[0 0.0.0 0 > 0 0]", "[0 0 > 0.0.0 0]",
		"(0 [0 0 > 0 0)", "(0 [0 0 > 0 0](0))", "([0 0 > 0 0])", "[(0)]", "(0]", "[0 0 > 0 0)", "(0\t(0))", "(0\n)", "(0)\n", "(0)\x00", "\xff",
		strings.Repeat("(0 ", 64) + "(0" + strings.Repeat(")", 65), "(0" + strings.Repeat(" (0)", 512) + ")", strings.Repeat("(0 ", 20000), strings.Repeat("(", api.MaxText),
	} {
		if got, e := grammar.Read(s); e != api.ErrForm || !sameTree(got, api.Tree{}) {
			t.Errorf("%.60q: %v, error %d", s, got, e)
		}
	}
	for _, s := range []string{strings.Repeat("(", api.MaxText+1), "(0)" + strings.Repeat(" ", api.MaxText)} {
		if got, e := grammar.Read(s); e != api.ErrLimit || !sameTree(got, api.Tree{}) {
			t.Errorf("%.60q: %v, error %d", s, got, e)
		}
	}
}

// P3.5: the longest text that is read, and one that is longer.
func TestReadLongest(t *testing.T) {
	firsts, rest := "", " 0 > 0 0]"
	for len(firsts) < api.MaxText-100 {
		firsts += strconv.Itoa(len(firsts)) + ".0.0 "
	}
	text := "[" + firsts + "1.2.3 4.5.6 "
	for len(text)+len(rest)+6 <= api.MaxText-1 {
		text += "7.8.9 "
	}
	text += strings.Repeat("1", api.MaxText-len(text)-len(rest)) + rest
	if got, e := grammar.Write(tree(t, text)); e != api.OK || got != text || len(text) != api.MaxText {
		t.Errorf("%d bytes of %d, error %d", len(got), len(text), e)
	}
	if _, e := grammar.Read(strings.Replace(text, " 0 >", " 10 >", 1)); e != api.ErrLimit {
		t.Errorf("error %d", e)
	}
}

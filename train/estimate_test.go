package train_test

import (
	"slices"
	"testing"

	"truchman/api"
	"truchman/train"
)

// wordsText is the text of rules by which a word may be derived at once, or by two rules.
const wordsText = `start S
rule S 10
source =a
target =x
rule S 10
cat T
source 1
target 1
rule T 10
source =a
target =x
rule T 10
source =b
target =y
rule U 10
source =b
target =y
`

// rowsText is the text of rules for rows of words. By the costs that are estimated of them, other trees than before are the first ones, again and again.
const rowsText = `start S
rule S 0
cat A
cat S
source 1 2
target 1 2
rule S 6
cat A
source 1
target 1
rule A 1
source =b
target
rule A 3
source =a
target =x
rule A 6
source =a =b
target =x
rule A 7
source =a =a
target =x =x
`

// rowsCouples are couples of which the first and the last one fit no tree.
func rowsCouples() []api.Couple { return couples("b a a b / x", "a b / x", "a a / x x", "b / x") }

// P6.2: rules that are used by no tree that fits, be it the first one or not.
func TestUnused(t *testing.T) {
	words, rows, two, silent := ruled(wordsText), ruled(rowsText), ruled(twoText), ruled(silentText)
	for _, x := range []struct {
		name string
		s    api.System
		l    []api.Couple
		want []int
	}{
		{"nothing", words, nil, []int{0, 1, 2, 3, 4}},
		{"no tree", words, couples("a / y", "/", "a b / x y"), []int{0, 1, 2, 3, 4}},
		{"two trees", words, couples("a / x"), []int{3, 4}},
		{"another one", words, couples("b / y"), []int{0, 2, 4}},
		{"both", words, couples("b / y", "a / x"), []int{4}},
		{"both, and others", words, couples("b / x", "b / y", "a / y", "a / x", "a / x"), []int{4}},
		{"the first couple", rows, rowsCouples()[:1], []int{0, 1, 2, 3, 4, 5}},
		{"two couples", rows, rowsCouples()[:2], []int{5}},
		{"the third couple", rows, rowsCouples()[2:], []int{2, 4}},
		{"all of them", rows, rowsCouples(), nil},
		{"a rule of another category", two, couples("a a / c b", "a / b"), []int{4}},
		{"no target words", silent, couples("a a /"), []int{2, 3, 4, 5, 6}},
		{"no rules", ruled("start S\n"), couples("a / a"), nil},
		{"the chapter", given(), []api.Couple{theCouple()}, nil},
		{"the chapter, without a tree", given(), couples("the dog / der hund"), []int{0, 1, 2}},
	} {
		if got, e := train.Unused(x.s, x.l); !slices.Equal(got, x.want) || e != api.OK {
			t.Errorf("%s: %v, error %d, want %v", x.name, got, e, x.want)
		}
	}
}

// P6.4: costs by the first trees alone, and what the couples cost before and after.
func TestEstimate(t *testing.T) {
	words, rows, two := ruled(wordsText), ruled(rowsText), ruled(twoText)
	for _, x := range []struct {
		name          string
		s             api.System
		l             []api.Couple
		costs         []int
		before, after int
	}{
		{"nothing", words, nil, []int{2, 2, 2, 2, 0}, 0, 0},
		{"no tree", words, couples("a / y", "/", "a b / x y"), []int{2, 2, 2, 2, 0}, 0, 0},
		// (0) and (1 (3)); then (0) costs 2, and (1 (3)) 4.
		{"first trees", words, couples("a / x", "b / y"), []int{2, 2, 4, 2, 0}, 30, 6},
		{"couples that no tree fits", words, couples("a / y", "a / x", "", "b / y", "c / x"), []int{2, 2, 4, 2, 0}, 30, 6},
		// (1 (2)) and (1 (3)); then (0) costs 4, and each of these 3.
		{"other first trees", priced(words, []int{9, 0, 0, 0, 0}), couples("a / x", "b / y"), []int{4, 1, 2, 2, 0}, 0, 6},
		// (0) and (1 (2)) cost the same, so (0) is the first one.
		{"equal costs", priced(words, []int{9, 4, 5, 0, 0}), couples("a / x"), []int{2, 4, 2, 2, 0}, 9, 2},
		{"the same couple twice", words, couples("a / x", "a / x"), []int{1, 4, 2, 2, 0}, 20, 2},
		// (0 (2) (2)) is the first one of two that cost 7.
		{"trees in their order", two, couples("a a / b b"), []int{4, 6, 3, 6, 0}, 7, 10},
		{"rows", rows, rowsCouples(), []int{2, 2, 4, 2, 6, 6}, 22, 16},
		{"the chapter", given(), []api.Couple{theCouple()}, []int{0, 0, 0}, 3, 0},
		{"no rules", ruled("start S\n"), couples("a / a"), nil, 0, 0},
	} {
		better, before, after, e := train.Estimate(x.s, x.l)
		if before != x.before || after != x.after || e != api.OK || !sameSystem(better, priced(x.s, x.costs)) {
			t.Errorf("%s: %v, %d, %d, error %d, want %v, %d, %d", x.name, costs(better), before, after, e, x.costs, x.before, x.after)
		}
	}
}

// P6.5: rounds until there are no more, or nothing gets better.
func TestTrain(t *testing.T) {
	words, rows := ruled(wordsText), ruled(rowsText)
	first := []int{0, 6, 1, 3, 6, 7}
	for _, x := range []struct {
		name   string
		s      api.System
		l      []api.Couple
		rounds int
		costs  []int
		totals []int
	}{
		{"nothing", words, nil, 100, []int{10, 10, 10, 10, 10}, []int{0}},
		{"no tree", words, couples("a / y"), 100, []int{10, 10, 10, 10, 10}, []int{0}},
		{"0 rounds", rows, rowsCouples(), 0, first, []int{22}},
		{"1 round", rows, rowsCouples(), 1, []int{2, 2, 4, 2, 6, 6}, []int{22, 16}},
		{"2 rounds", rows, rowsCouples(), 2, []int{3, 2, 6, 3, 4, 6}, []int{22, 16, 14}},
		{"3 rounds", rows, rowsCouples(), 3, []int{4, 1, 6, 6, 4, 4}, []int{22, 16, 14, 10}},
		{"4 rounds", rows, rowsCouples(), 4, []int{4, 1, 6, 6, 4, 4}, []int{22, 16, 14, 10}},
		{"100 rounds", rows, rowsCouples(), 100, []int{4, 1, 6, 6, 4, 4}, []int{22, 16, 14, 10}},
		{"the same total", words, couples("a / x", "b / y"), 100, []int{2, 2, 4, 2, 0}, []int{30, 6}},
		{"a greater total", priced(words, []int{9, 0, 0, 0, 0}), couples("a / x", "b / y"), 100, []int{9, 0, 0, 0, 0}, []int{0}},
		{"a greater total, 0 rounds", priced(words, []int{9, 0, 0, 0, 0}), couples("a / x", "b / y"), 0, []int{9, 0, 0, 0, 0}, []int{0}},
		{"the chapter", given(), []api.Couple{theCouple()}, 1, []int{0, 0, 0}, []int{3, 0}},
		{"no rules", ruled("start S\n"), couples("a / a"), 5, nil, []int{0}},
	} {
		best, totals, e := train.Train(x.s, x.l, x.rounds)
		if !slices.Equal(totals, x.totals) || e != api.OK || !sameSystem(best, priced(x.s, x.costs)) {
			t.Errorf("%s: %v, %v, error %d, want %v, %v", x.name, costs(best), totals, e, x.costs, x.totals)
		}
	}
}

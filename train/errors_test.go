package train_test

import (
	"math"
	"slices"
	"strings"
	"testing"

	"truchman/api"
	"truchman/train"
)

func badSystem() api.System {
	s := given()
	s.Rules[2].Cost = -1
	return s
}

func loopSystem() api.System {
	s := ruled("start S\n")
	s.Rules = []api.Rule{{Left: "A", Parts: []api.Part{{Cat: "A"}}, Source: []api.Item{{Part: 1}}, Target: []api.Item{{Part: 1}}}}
	return s
}

// fullSystem is a system by which the forest of 16 words, but not that of 13, would have too many edges: 16 words are parted in 680 ways, 13 in 364.
func fullSystem() api.System {
	return ruled("start S\nrule S 0\nsource =a\ntarget =a\n" + strings.Repeat("rule S 0\ncat S\ncat S\nsource 1 2\ntarget 1 2\n", 60))
}

// wrongCouple is a couple with an error by a system.
type wrongCouple struct {
	s    api.System
	c    api.Couple
	want api.Errno
}

func wrongCouples() []wrongCouple {
	a := func(n int) []string { return slices.Repeat([]string{"a"}, n) }
	bad := func(words []string) []string { return append(words, "a b") }
	return []wrongCouple{
		{badSystem(), api.Couple{Source: a(17), Target: a(4097)}, api.ErrArg},
		{loopSystem(), api.Couple{Source: a(17), Target: a(4097)}, api.ErrLoop},
		{given(), api.Couple{Source: a(17)}, api.ErrLimit},
		{given(), api.Couple{Source: bad(a(16)), Target: bad(nil)}, api.ErrLimit},
		{given(), api.Couple{Source: bad(nil), Target: a(4097)}, api.ErrLimit},
		{given(), api.Couple{Target: bad(a(4096))}, api.ErrLimit},
		{given(), api.Couple{Source: bad(a(15)), Target: bad(a(4095))}, api.ErrArg},
		{given(), api.Couple{Source: []string{""}}, api.ErrArg},
		{given(), api.Couple{Target: []string{"a", "", "a"}}, api.ErrArg},
		{given(), api.Couple{Source: a(1), Target: []string{"\xff"}}, api.ErrArg},
		{given(), api.Couple{Source: a(1), Target: []string{strings.Repeat("a", 25)}}, api.ErrArg},
		{fullSystem(), api.Couple{Source: a(16), Target: bad(nil)}, api.ErrArg},
		{fullSystem(), api.Couple{Source: a(16)}, api.ErrLimit},
		{fullSystem(), api.Couple{Source: a(16), Target: a(16)}, api.ErrLimit},
	}
}

// P6.1: the errors of a couple, in their order, and then those of k.
func TestCoupleErrors(t *testing.T) {
	for _, x := range wrongCouples() {
		for _, k := range []int{0, 1, 65} {
			if l, e := train.Fits(x.s, x.c, k); e != x.want || len(l) != 0 {
				t.Errorf("Fits: %d trees, error %d, want %d", len(l), e, x.want)
			}
		}
		if trees, uses, e := train.Count(x.s, x.c); e != x.want || trees != 0 || len(uses) != 0 {
			t.Errorf("Count: %d, %d, error %d, want %d", trees, uses, e, x.want)
		}
	}
	for k, want := range map[int]api.Errno{1: api.OK, 64: api.OK, 0: api.ErrArg, -1: api.ErrArg, math.MinInt: api.ErrArg, 65: api.ErrLimit, math.MaxInt: api.ErrLimit} {
		for _, c := range []api.Couple{theCouple(), {}} {
			if l, e := train.Fits(given(), c, k); e != want || (len(l) > 0) != (e == api.OK && len(c.Source) > 0) {
				t.Errorf("Fits(%d): %d trees, error %d", k, len(l), e)
			}
		}
	}
}

// lists are the functions that take a list of couples, each as one that returns whether its results are zero.
var lists = map[string]func(s api.System, l []api.Couple) (bool, api.Errno){
	"Unused": func(s api.System, l []api.Couple) (bool, api.Errno) {
		rules, e := train.Unused(s, l)
		return len(rules) == 0, e
	},
	"Estimate": func(s api.System, l []api.Couple) (bool, api.Errno) {
		better, before, after, e := train.Estimate(s, l)
		return sameSystem(better, api.System{}) && before == 0 && after == 0, e
	},
	"Train": func(s api.System, l []api.Couple) (bool, api.Errno) {
		best, totals, e := train.Train(s, l, 1)
		return sameSystem(best, api.System{}) && len(totals) == 0, e
	},
	"Train, with wrong rounds": func(s api.System, l []api.Couple) (bool, api.Errno) {
		best, totals, e := train.Train(s, l, -1)
		if e == api.OK {
			return false, api.ErrSum
		}
		return sameSystem(best, api.System{}) && len(totals) == 0, e
	},
}

// P6.2, P6.4, P6.5: the errors of a list of couples, in their order.
func TestListErrors(t *testing.T) {
	fine := theCouple()
	long, bad := api.Couple{Source: make([]string, 17)}, api.Couple{Target: make([]string, 1)}
	full := api.Couple{Source: slices.Repeat([]string{"a"}, 16)}
	cases := []struct {
		s    api.System
		l    []api.Couple
		want api.Errno
	}{
		{badSystem(), nil, api.ErrArg},
		{badSystem(), make([]api.Couple, 65), api.ErrArg},
		{loopSystem(), []api.Couple{long}, api.ErrLoop},
		{given(), make([]api.Couple, 65), api.ErrLimit},
		{given(), slices.Repeat([]api.Couple{bad}, 65), api.ErrLimit},
		{given(), append(make([]api.Couple, 63), bad), api.ErrArg},
		{given(), append(make([]api.Couple, 63), long), api.ErrLimit},
		{given(), []api.Couple{fine, bad, long}, api.ErrArg},
		{given(), []api.Couple{fine, long, bad}, api.ErrLimit},
		{given(), []api.Couple{long, bad, fine}, api.ErrLimit},
		{fullSystem(), []api.Couple{full, bad}, api.ErrLimit},
		{fullSystem(), []api.Couple{bad, full}, api.ErrArg},
	}
	for _, x := range wrongCouples() {
		cases = append(cases, struct {
			s    api.System
			l    []api.Couple
			want api.Errno
		}{x.s, []api.Couple{x.c}, x.want})
	}
	for name, call := range lists {
		for i, x := range cases {
			if zero, e := call(x.s, x.l); e != x.want || !zero {
				t.Errorf("%s: case %d: error %d, want %d", name, i, e, x.want)
			}
		}
	}
}

// P6.5: rounds that are asked for.
func TestRoundsErrors(t *testing.T) {
	for n, want := range map[int]api.Errno{0: api.OK, 1: api.OK, 100: api.OK, -1: api.ErrArg, math.MinInt: api.ErrArg, 101: api.ErrArg, math.MaxInt: api.ErrArg} {
		best, totals, e := train.Train(given(), []api.Couple{theCouple()}, n)
		if e != want || (len(totals) > 0) != (e == api.OK) || (len(best.Rules) > 0) != (e == api.OK) {
			t.Errorf("%d rounds: %v, error %d", n, totals, e)
		}
	}
}

// P6.2, P6.4, P6.5: as many couples as there may be.
func TestManyCouples(t *testing.T) {
	l := slices.Repeat([]api.Couple{theCouple()}, api.MaxPairs)
	if rules, e := train.Unused(given(), l); len(rules) != 0 || e != api.OK {
		t.Error(rules, e)
	}
	better, before, after, e := train.Estimate(given(), l)
	if before != 64*3 || after != 0 || !slices.Equal(costs(better), []int{0, 0, 0}) || e != api.OK {
		t.Error(costs(better), before, after, e)
	}
	best, totals, e := train.Train(given(), l, 100)
	if !sameSystem(best, better) || !slices.Equal(totals, []int{192, 0}) || e != api.OK {
		t.Error(costs(best), totals, e)
	}
}

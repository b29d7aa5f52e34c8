package train_test

import (
	"math"
	"math/big"
	"slices"
	"testing"

	"truchman/api"
	"truchman/train"
)

// P6.3: the examples of the chapter and of DOC.md, and numbers at their bounds.
func TestBits(t *testing.T) {
	const most = math.MaxInt32
	for _, x := range []struct{ n, t, want int }{
		{1, 1, 0}, {1, 2, 2}, {1, 3, 4}, {3, 4, 1}, {2, 6, 4}, {2, 4, 2}, {1, 6, 6}, {2, 3, 2}, {1, 4, 4},
		{5, 5, 0}, {5, 7, 1}, {5, 8, 2}, {7, 10, 2}, {70, 99, 2}, {99, 140, 1}, {1, 1 << 30, 60}, {1, 1<<30 + 1, 61},
		{1, most, 62}, {2, most, 60}, {most - 1, most, 1}, {most, most, 0}, {1 << 30, most, 2}, {1 << 24, 1 << 24, 0},
		{1518500249, most, 2}, {1518500250, most, 1},
	} {
		if got, e := train.Bits(x.n, x.t); got != x.want || e != api.OK {
			t.Errorf("Bits(%d, %d): %d, error %d, want %d", x.n, x.t, got, e, x.want)
		}
	}
	for _, x := range [][2]int{{0, 0}, {0, 1}, {-1, 1}, {-1, -1}, {math.MinInt, 5}, {2, 1}, {1, 0}, {1, -1}, {1, math.MinInt}, {1, most + 1}, {most + 1, most + 1}, {1, math.MaxInt}, {math.MaxInt, math.MaxInt}} {
		if got, e := train.Bits(x[0], x[1]); got != 0 || e != api.ErrArg {
			t.Errorf("Bits(%d, %d): %d, error %d", x[0], x[1], got, e)
		}
	}
}

// leastBits returns what Bits is said to be, by numbers without bounds.
func leastBits(n, t int) int {
	left, right := big.NewInt(int64(n)), big.NewInt(int64(t))
	left.Mul(left, left)
	right.Mul(right, right)
	for c := 0; ; c++ {
		if new(big.Int).Lsh(left, uint(c)).Cmp(right) >= 0 {
			return c
		}
	}
}

// P6.3: many numbers.
func TestBitsMany(t *testing.T) {
	r := dice()
	check := func(n, u int) {
		if got, e := train.Bits(n, u); got != leastBits(n, u) || e != api.OK {
			t.Fatalf("Bits(%d, %d): %d, error %d, want %d", n, u, got, e, leastBits(n, u))
		}
	}
	for u := 1; u <= 60; u++ {
		for n := 1; n <= u; n++ {
			check(n, u)
		}
	}
	for range 10 * rounds {
		u := 1 + r.IntN(math.MaxInt32)>>r.IntN(31)
		check(1+r.IntN(u), u)
		check(1+r.IntN(min(u, 9)), u)
	}
}

// leftsText is the text of rules of several Lefts, some of which have several rules.
const leftsText = `start S
rule S 5
source =a
target
rule T 6
source =b
target
rule S 7
cat T
source 1
target 1
rule U 8
source =c
target
rule T 9
cat U
source 1
target 1
rule S 10
source =d
target
`

// P6.3: the example of the chapter, and rules with the same Left.
func TestCosts(t *testing.T) {
	for _, x := range []struct {
		s            api.System
		counts, want []int
	}{
		{given(), []int{3, 0, 2}, []int{0, 0, 0}},
		{ruled(leftsText), []int{0, 0, 0, 0, 0, 0}, []int{4, 2, 4, 0, 2, 4}},
		{ruled(leftsText), []int{1, 0, 0, 0, 0, 0}, []int{2, 2, 4, 0, 2, 4}},
		{ruled(leftsText), []int{0, 0, 5, 9, 0, 0}, []int{6, 2, 1, 0, 2, 6}},
		{ruled(leftsText), []int{9, 7, 0, 0, 3, 2}, []int{1, 2, 8, 0, 4, 5}},
		{ruled(leftsText), []int{1 << 20, 0, 0, 1 << 20, 1 << 20, 1 << 20}, []int{3, 41, 43, 0, 1, 3}},
		{ruled("start S\n"), nil, nil},
	} {
		got, e := train.Costs(x.s, x.counts)
		if !slices.Equal(costs(got), x.want) || e != api.OK {
			t.Errorf("%v: %v, error %d, want %v", x.counts, costs(got), e, x.want)
		}
		if x.want != nil && !sameSystem(got, priced(x.s, x.want)) {
			t.Errorf("%v: more than the costs is other", x.counts)
		}
	}
}

// P6.3: the errors of Costs, in their order.
func TestCostsErrors(t *testing.T) {
	for _, x := range []struct {
		s      api.System
		counts []int
		want   api.Errno
	}{
		{badSystem(), nil, api.ErrArg},
		{loopSystem(), nil, api.ErrLoop},
		{loopSystem(), []int{-1}, api.ErrLoop},
		{api.System{}, nil, api.ErrName},
		{given(), nil, api.ErrArg},
		{given(), []int{0, 0}, api.ErrArg},
		{given(), []int{0, 0, 0, 0}, api.ErrArg},
		{given(), []int{-1, 0, 0}, api.ErrArg},
		{given(), []int{0, 0, math.MinInt}, api.ErrArg},
		{given(), []int{0, 1<<20 + 1, 0}, api.ErrArg},
		{given(), []int{0, 0, math.MaxInt}, api.ErrArg},
		{ruled("start S\n"), []int{0}, api.ErrArg},
	} {
		if got, e := train.Costs(x.s, x.counts); e != x.want || !sameSystem(got, api.System{}) {
			t.Errorf("%v: error %d, want %d", x.counts, e, x.want)
		}
	}
}

// P6.7: a rule that is counted more often gets no more costly, and the others of its Left no cheaper.
func TestCostsMonotone(t *testing.T) {
	r := dice()
	s := ruled(leftsText)
	for range 10 * rounds {
		counts := make([]int, len(s.Rules))
		for i := range counts {
			counts[i] = r.IntN(1<<20+1) >> r.IntN(21)
		}
		more := slices.Clone(counts)
		rule := r.IntN(len(counts))
		more[rule] += r.IntN(1<<20 + 1 - counts[rule])
		a, d := train.Costs(s, counts)
		b, e := train.Costs(s, more)
		if d != api.OK || e != api.OK {
			t.Fatal(d, e)
		}
		for n := range s.Rules {
			old, now := a.Rules[n].Cost, b.Rules[n].Cost
			same := s.Rules[n].Left == s.Rules[rule].Left
			if n == rule && now > old || n != rule && now < old || !same && now != old {
				t.Fatalf("%v, %v: rule %d: %d, then %d", counts, more, n, old, now)
			}
		}
	}
}

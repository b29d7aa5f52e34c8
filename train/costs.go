package train

import (
	"math"
	"slices"

	"truchman/api"
	"truchman/grammar"
)

// mostCount is how often a rule is counted at most.
const mostCount = 1 << 20

// Bits returns the least c for which n^2 * 2^c is at least t^2.
func Bits(n, t int) (int, api.Errno) {
	if n < 1 || t < n || t > math.MaxInt32 {
		return 0, api.ErrArg
	}
	return bitsOf(n, t), api.OK
}

// bitsOf returns what Bits does, of numbers that are allowed. Nothing here gets greater than 2^63.
func bitsOf(n, t int) int {
	c := 0
	for square := uint64(n) * uint64(n); square < uint64(t)*uint64(t); square *= 2 {
		c++
	}
	return c
}

// Costs returns a system with the costs of counts.
func Costs(s api.System, counts []int) (api.System, api.Errno) {
	if e := grammar.Check(s); e != api.OK {
		return api.System{}, e
	}
	wrong := func(n int) bool { return n < 0 || n > mostCount }
	if len(counts) != len(s.Rules) || slices.ContainsFunc(counts, wrong) {
		return api.System{}, api.ErrArg
	}
	return priced(s, counted(s.Rules, counts)), api.OK
}

// counted returns the costs of counts.
func counted(rules []api.Rule, counts []int) []int {
	totals := map[string]int{}
	for n, r := range rules {
		totals[r.Left] += counts[n] + 1
	}
	var out []int
	for n, r := range rules {
		out = append(out, bitsOf(counts[n]+1, totals[r.Left]))
	}
	return out
}

// costsOf returns the costs of rules.
func costsOf(rules []api.Rule) []int {
	return converted(rules, func(r api.Rule) int { return r.Cost })
}

// priced returns a system in new memory whose rules have other costs.
func priced(s api.System, costs []int) api.System {
	s = cloneSystem(s)
	for n, cost := range costs {
		s.Rules[n].Cost = cost
	}
	return s
}

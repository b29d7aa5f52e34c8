package train

import (
	"iter"

	"truchman/api"
)

// mostRounds is how many rounds of training are asked for at most.
const mostRounds = 100

// Estimate returns a system with the costs of the counts of uses in the first trees that fit couples, and the sums of the costs of the first trees by s and by that system.
func Estimate(s api.System, l []api.Couple) (better api.System, before, after int, e api.Errno) {
	graphs, e := searchAll(s, l)
	if e != api.OK {
		return api.System{}, 0, 0, e
	}
	var costs, totals []int
	for next, total := range training(s.Rules, graphs) {
		costs, totals = next, append(totals, total)
		if len(totals) == 2 {
			break
		}
	}
	return priced(s, costs), totals[0], totals[1], api.OK
}

// Train returns the last one of the systems that are estimated one by the other, for as long as the sum of the costs of the first trees gets less, and these sums.
func Train(s api.System, l []api.Couple, rounds int) (best api.System, totals []int, e api.Errno) {
	graphs, e := searchAll(s, l)
	if e != api.OK {
		return api.System{}, nil, e
	}
	if rounds < 0 || rounds > mostRounds {
		return api.System{}, nil, api.ErrArg
	}
	costs := costsOf(s.Rules)
	for next, total := range training(s.Rules, graphs) {
		if n := len(totals); n > 0 && total >= totals[n-1] {
			break
		}
		costs, totals = next, append(totals, total)
		if len(totals) > rounds {
			break
		}
	}
	return priced(s, costs), totals, api.OK
}

// training tells costs of rules, each time with the sum of the costs of the first trees that fit couples by them: first the costs that rules have, then round by round those that are estimated by the ones before. It does not end by itself.
func training(rules []api.Rule, graphs []*graph) iter.Seq2[[]int, int] {
	return func(yield func([]int, int) bool) {
		costs := costsOf(rules)
		for {
			uses, total := weigh(graphs, costs)
			if !yield(costs, total) {
				return
			}
			costs = counted(rules, uses)
		}
	}
}

// weigh returns how many uses of each rule the first trees have that fit couples, and the sum of their costs.
func weigh(graphs []*graph, costs []int) (uses []int, total int) {
	uses = make([]int, len(costs))
	for _, first := range each(graphs, func(g *graph) firstTree { return g.first(costs) }) {
		total += first.cost
		for rule, n := range first.uses {
			uses[rule] += n
		}
	}
	return uses, total
}

// firstTree is what counts of the first tree that fits a couple; zero if none fits.
type firstTree struct {
	cost int
	uses []int
}

func (g *graph) first(costs []int) firstTree {
	x, ok := newRanking(g, costs).whole(0)
	if !ok {
		return firstTree{}
	}
	out := firstTree{x.cost, make([]int, len(costs))}
	out.count(x.tree)
	return out
}

// count counts the uses of rules in a tree.
func (f firstTree) count(t api.Tree) {
	if t.Rule < 0 {
		return
	}
	f.uses[t.Rule]++
	for _, kid := range t.Kids {
		f.count(kid)
	}
}

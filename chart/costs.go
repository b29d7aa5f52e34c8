package chart

import (
	"math"
	"math/bits"
	"slices"

	"truchman/api"
)

// upward returns the numbers of all items, each behind the kids of its edges. (Within a span, numbers do not tell which that are.)
func (f *Forest) upward() []int {
	var out []int
	seen := make([]bool, len(f.nodes))
	var visit func(n int)
	visit = func(n int) {
		if seen[n] {
			return
		}
		seen[n] = true
		for _, g := range f.nodes[n].edges {
			for _, kid := range g.Kids {
				visit(kid)
			}
		}
		out = append(out, n)
	}
	for n := range f.nodes {
		visit(n)
	}
	return out
}

// weigh reckons the count and the costs of all items.
func (f *Forest) weigh() {
	order := f.upward()
	for _, n := range order {
		f.weighInside(&f.nodes[n])
	}
	for _, n := range slices.Backward(order) {
		f.weighOutside(f.nodes[n])
	}
}

// weighInside reckons the count and the inside cost of an item by those of its kids. Its outside cost is as yet that of a goal, or none.
func (f *Forest) weighInside(x *node) {
	x.outside = -1
	if x.goal {
		x.outside = 0
	}
	if x.item.Cat == "" {
		x.count = 1
		return
	}
	x.inside = math.MaxInt
	for _, g := range x.edges {
		x.inside = min(x.inside, f.cost(g))
		trees := uint64(1)
		for _, kid := range g.Kids {
			trees = times(trees, f.nodes[kid].count)
		}
		x.count = plus(x.count, trees)
	}
}

// weighOutside lowers the outside costs of an item's kids to what they are around its edges.
func (f *Forest) weighOutside(x node) {
	if x.outside < 0 {
		return
	}
	for _, g := range x.edges {
		whole := x.outside + f.cost(g)
		for _, kid := range g.Kids {
			k := &f.nodes[kid]
			if around := whole - k.inside; k.outside < 0 || around < k.outside {
				k.outside = around
			}
		}
	}
}

// cost returns the least cost of a tree with an edge at its top.
func (f *Forest) cost(g Edge) int {
	out := f.rules[g.Rule].cost
	for _, kid := range g.Kids {
		out += f.nodes[kid].inside
	}
	return out
}

// plus and times stay at the greatest number.

func plus(a, b uint64) uint64 {
	sum, carry := bits.Add64(a, b, 0)
	if carry > 0 {
		return math.MaxUint64
	}
	return sum
}

func times(a, b uint64) uint64 {
	high, low := bits.Mul64(a, b)
	if high > 0 {
		return math.MaxUint64
	}
	return low
}

// Prune returns the forest of those trees whose cost is at most beam greater than the least one, and of what comes of their edges.
func (f *Forest) Prune(beam int) (*Forest, api.Errno) {
	if !f.isMade() {
		return nil, api.ErrNil
	}
	if beam < 0 {
		return nil, api.ErrArg
	}
	least := f.least()
	stays := func(x node, cost int) bool { return x.outside >= 0 && x.outside+cost-least <= beam }
	numbers := make([]int, len(f.nodes)) // of what stays
	out := &Forest{made: true}
	for _, r := range f.rules {
		r.source = slices.Clone(r.source)
		out.rules = append(out.rules, r)
	}
	for n, x := range f.nodes {
		if stays(x, x.inside) {
			numbers[n] = len(out.nodes)
			out.nodes = append(out.nodes, node{item: cloneItem(x.item), goal: x.goal})
		}
	}
	for n, x := range f.nodes {
		for _, g := range x.edges {
			if stays(x, f.cost(g)) {
				to := &out.nodes[numbers[n]]
				to.edges = append(to.edges, g.numbered(numbers))
			}
		}
	}
	out.weigh()
	return out, api.OK
}

// least returns the least cost of a tree of a goal, if there is a goal.
func (f *Forest) least() int {
	out := math.MaxInt
	for _, n := range f.Goals() {
		out = min(out, f.nodes[n].inside)
	}
	return out
}

// numbered returns an edge with other numbers of its kids.
func (g Edge) numbered(numbers []int) Edge {
	out := Edge{Rule: g.Rule}
	for _, kid := range g.Kids {
		out.Kids = append(out.Kids, numbers[kid])
	}
	return out
}

package train

import (
	"math"
	"math/bits"
	"slices"

	"truchman/api"
)

// graph is all trees that fit a couple. What several trees have in common stands there once, as a node; the last node is that of whole trees.
type graph struct {
	rules int    // node r is the tree of rule r that lacks all kids as yet; node rules is nothing
	nodes []node // each behind those of its ways
}

// node is trees of one item of a forest that have the same span of target words; or trees of one edge, all of which lack the same kids as yet.
type node struct {
	leaf *api.Tree // its only tree, if no ways lead to it
	ways []way
}

// way is how trees come about: a tree of left, with a tree of right as its kid for a part. If right is nothing, they are those of left. No tree comes about in two ways.
type way struct{ left, right, part int }

func newGraph(rules []api.Rule) *graph {
	g := &graph{rules: len(rules)}
	for n, r := range rules {
		g.add(node{leaf: &api.Tree{Rule: n, Kids: make([]api.Tree, len(r.Parts))}})
	}
	g.add(node{leaf: &api.Tree{}})
	return g
}

// add returns the number of a node that is put behind the others.
func (g *graph) add(x node) int {
	g.nodes = append(g.nodes, x)
	return len(g.nodes) - 1
}

func (g *graph) nothing() int { return g.rules }

func (g *graph) root() int { return len(g.nodes) - 1 }

// count returns the number of whole trees, and of the uses of each rule in them.
func (g *graph) count() (trees uint64, uses []uint64) {
	inside := make([]uint64, len(g.nodes))  // the trees of a node
	outside := make([]uint64, len(g.nodes)) // the trees with a place of a node, each without what stands there
	for n, x := range g.nodes {
		if x.leaf != nil {
			inside[n] = 1
		}
		for _, w := range x.ways {
			inside[n] = plus(inside[n], times(inside[w.left], inside[w.right]))
		}
	}
	outside[g.root()] = 1
	for n := g.root(); n >= 0; n-- {
		for _, w := range g.nodes[n].ways {
			outside[w.left] = plus(outside[w.left], times(outside[n], inside[w.right]))
			outside[w.right] = plus(outside[w.right], times(outside[n], inside[w.left]))
		}
	}
	return inside[g.root()], slices.Clone(outside[:g.rules])
}

// wide is a number of 128 bits: its high half, then its low one.
type wide [2]uint64

// multiply makes w the product of two numbers.
func (w *wide) multiply(a, b uint64) { w[0], w[1] = bits.Mul64(a, b) }

// plus and times stay at the greatest number. As they add and multiply alone, what comes of them is the true number wherever that is less.

func times(a, b uint64) uint64 {
	var product wide
	product.multiply(a, b)
	if product[0] > 0 {
		return math.MaxUint64
	}
	return product[1]
}

func plus(a, b uint64) uint64 {
	sum, carry := bits.Add64(a, b, 0)
	if carry > 0 {
		return math.MaxUint64
	}
	return sum
}

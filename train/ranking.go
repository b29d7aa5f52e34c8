package train

import (
	"math"
	"slices"

	"truchman/api"
	"truchman/grammar"
)

// ranking ranks the trees of a graph by the costs of rules, no more of them than are asked for. Trees in it share their kids.
type ranking struct {
	*graph
	least []int   // the cost of the first tree of each node, which need not be found for that
	lists []*list // of the nodes that were asked for
}

// list is the trees of a node, as far as they are ranked.
type list struct {
	done []ranked
	last *candidate   // what the last one of done was, as long as others may follow it
	next []*candidate // one of these, or one that follows last, is the next one
}

type ranked struct {
	cost int
	tree api.Tree
}

// candidate is a tree that comes about by a way, of trees that have some ranks.
type candidate struct {
	ranked
	made        bool // its tree
	way         way
	left, right int // the ranks
}

func newRanking(g *graph, costs []int) *ranking {
	r := &ranking{g, make([]int, len(g.nodes)), make([]*list, len(g.nodes))}
	copy(r.least, costs)
	for n, x := range g.nodes {
		if x.leaf != nil {
			continue
		}
		r.least[n] = math.MaxInt
		for _, w := range x.ways {
			r.least[n] = min(r.least[n], r.least[w.left]+r.least[w.right])
		}
	}
	return r
}

// whole returns the tree of the couple that has a rank; false if there are not that many.
func (r *ranking) whole(rank int) (ranked, bool) { return r.tree(r.root(), rank) }

// tree returns the tree of a node that has a rank; false if there are not that many.
func (r *ranking) tree(n, rank int) (ranked, bool) {
	l := r.list(n)
	for len(l.done) <= rank {
		if !r.find(l) {
			return ranked{}, false
		}
	}
	return l.done[rank], true
}

// cost returns the cost of the tree of a node that has a rank; false if there are not that many.
func (r *ranking) cost(n, rank int) (int, bool) {
	if rank == 0 {
		return r.least[n], true
	}
	x, ok := r.tree(n, rank)
	return x.cost, ok
}

// list returns the list of a node.
func (r *ranking) list(n int) *list {
	if r.lists[n] != nil {
		return r.lists[n]
	}
	l := &list{}
	r.lists[n] = l
	if leaf := r.nodes[n].leaf; leaf != nil {
		l.done = []ranked{{r.least[n], *leaf}}
	}
	for _, w := range r.nodes[n].ways {
		r.offer(l, w, 0, 0)
	}
	return l
}

// offer puts the tree that comes about by a way, of trees of some ranks, into next, if there is one.
func (r *ranking) offer(l *list, w way, left, right int) {
	a, ok := r.cost(w.left, left)
	if !ok {
		return
	}
	if b, ok := r.cost(w.right, right); ok {
		l.next = append(l.next, &candidate{ranked{cost: a + b}, false, w, left, right})
	}
}

// find puts one more tree behind done; false if there is none.
func (r *ranking) find(l *list) bool {
	if c := l.last; c != nil {
		l.last = nil
		r.offer(l, c.way, c.left, c.right+1)
		if c.right == 0 { // so that nothing is offered twice
			r.offer(l, c.way, c.left+1, 0)
		}
	}
	if len(l.next) == 0 {
		return false
	}
	first := 0
	for i := range l.next {
		if r.isBefore(l.next[i], l.next[first]) {
			first = i
		}
	}
	l.last = l.next[first]
	l.next = slices.Delete(l.next, first, first+1)
	l.done = append(l.done, ranked{l.last.cost, r.made(l.last)})
	return true
}

// isBefore reports whether a candidate comes before another one. Their trees are made just if costs do not tell.
func (r *ranking) isBefore(a, b *candidate) bool {
	if a == b || a.cost != b.cost {
		return a.cost < b.cost
	}
	return grammar.Compare(r.made(a), r.made(b)) < 0
}

// made returns the tree of a candidate.
func (r *ranking) made(c *candidate) api.Tree {
	if c.made {
		return c.tree
	}
	left, _ := r.tree(c.way.left, c.left)
	c.made, c.tree = true, left.tree
	if c.way.right != r.nothing() {
		right, _ := r.tree(c.way.right, c.right)
		c.tree.Kids = slices.Clone(c.tree.Kids)
		c.tree.Kids[c.way.part] = right.tree
	}
	return c.tree
}

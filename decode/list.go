package decode

import (
	"cmp"
	"slices"

	"truchman/api"
	"truchman/grammar"
)

// ranked is a tree with a cost.
type ranked struct {
	cost int
	tree api.Tree
}

func compareRanked(a, b ranked) int {
	if c := cmp.Compare(a.cost, b.cost); c != 0 {
		return c
	}
	return grammar.Compare(a.tree, b.tree)
}

// list is trees in order, found as far as they are asked for. Those of an edge may lack kids as yet, but all of them the same ones.
type list struct {
	least int          // the cost of the first one
	ways  []way[*list] // how they come about; no tree does in two ways
	done  []ranked
	last  *candidate // what the last one of done was, as long as others may follow it
	next  queue[*candidate]
}

// only returns the list of one tree.
func only(x ranked) *list { return &list{least: x.cost, done: []ranked{x}} }

// extended returns a list, which has not been asked for a tree yet, with the trees of one more way.
func extended(l *list, known bool, w way[*list]) *list {
	cost, _ := costOf(w, 0, 0)
	if !known {
		l = &list{least: cost, next: queue[*candidate]{order: compareCandidates}}
	}
	l.least = min(l.least, cost)
	l.ways = append(l.ways, w)
	return l
}

// cost returns the cost of the tree that has a rank; false if there are not that many. No list is like one of a single tree that costs nothing.
func (l *list) cost(rank int) (int, bool) {
	if l == nil {
		return 0, rank == 0
	}
	if rank == 0 { // the tree itself need not be found for that
		return l.least, true
	}
	x, ok := l.tree(rank)
	return x.cost, ok
}

// tree returns the tree that has a rank; false if there are not that many.
func (l *list) tree(rank int) (ranked, bool) {
	for len(l.done) <= rank {
		if !l.find() {
			return ranked{}, false
		}
	}
	return l.done[rank], true
}

// find finds one more tree; false if there is none.
func (l *list) find() bool {
	l.propose()
	for l.next.Len() > 0 {
		c := l.next.take()
		if c.isMade() {
			l.done, l.last = append(l.done, c.ranked), c
			return true
		}
		c.make()
		l.next.put(c)
	}
	l.last = nil // nothing follows it, so that need not be looked for again
	return false
}

// propose puts into next what could not come before the last tree was found.
func (l *list) propose() {
	if len(l.done) == 0 {
		for _, w := range l.ways {
			l.offer(w, 0, 0)
		}
	}
	if c := l.last; c != nil {
		l.offer(c.way, c.left, c.right+1)
		if c.right == 0 { // so that no candidate is offered twice
			l.offer(c.way, c.left+1, 0)
		}
	}
}

// offer puts the tree that comes in a way of trees of some ranks into next, if there is one.
func (l *list) offer(w way[*list], left, right int) {
	if cost, ok := costOf(w, left, right); ok {
		l.next.put(&candidate{ranked{cost, api.Tree{Rule: unmade}}, w, left, right})
	}
}

// costOf returns the cost of the tree that comes in a way of trees of some ranks; false if there is none.
func costOf(w way[*list], left, right int) (int, bool) {
	a, ok := w.left.cost(left)
	if !ok {
		return 0, false
	}
	b, ok := w.right.cost(right)
	return a + b + w.cost, ok
}

// unmade is the Rule of trees that are not made yet. It stands ahead of all others, so that all trees of one cost are made before the first of them is told.
const unmade = -2

// candidate is a tree that may come next: it comes in a way of trees that have some ranks.
type candidate struct {
	ranked
	way         way[*list]
	left, right int
}

func compareCandidates(a, b *candidate) int { return compareRanked(a.ranked, b.ranked) }

func (c *candidate) isMade() bool { return c.tree.Rule != unmade }

func (c *candidate) make() {
	x, _ := c.way.left.tree(c.left)
	c.tree = x.tree
	if c.way.right != nil {
		kid, _ := c.way.right.tree(c.right)
		c.tree.Kids = slices.Clone(c.tree.Kids)
		c.tree.Kids[c.way.part] = kid.tree
	}
}

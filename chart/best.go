package chart

import (
	"cmp"
	"iter"
	"slices"

	"truchman/api"
	"truchman/grammar"
)

// Best returns the first k trees of an item, as they are ranked.
func (f *Forest) Best(n, k int) ([]api.Tree, api.Errno) {
	if _, e := f.node(n); e != api.OK {
		return nil, e
	}
	if k < 1 {
		return nil, api.ErrArg
	}
	if k > api.MaxBest {
		return nil, api.ErrLimit
	}
	r := ranking{f, make([]*row, len(f.nodes))}
	var out []api.Tree
	for t := range r.trees(n) {
		out = append(out, cloneTree(t))
		if len(out) == k {
			break
		}
	}
	return out, api.OK
}

// ranking ranks trees of a forest, no more of them than are asked for. Trees in it share their kids.
type ranking struct {
	*Forest
	rows []*row // of the items that were asked for
}

// row is the trees of an item, as far as they are ranked. A tree is ranked behind those that have kids of lower ranks in its place, so no other ones than those that follow one of done may come next.
type row struct {
	done []ranked
	next []candidate // as they are ranked
}

type ranked struct {
	cost int
	tree api.Tree
}

func compareRanked(a, b ranked) int {
	if c := cmp.Compare(a.cost, b.cost); c != 0 {
		return c
	}
	return grammar.Compare(a.tree, b.tree)
}

// candidate is a tree with an edge at its top, and with kids that have some ranks. The ranks ahead of part are not raised any more, so that no tree follows two of them.
type candidate struct {
	ranked
	edge  Edge
	ranks [api.MaxParts]int
	part  int
}

func compareCandidates(a, b candidate) int { return compareRanked(a.ranked, b.ranked) }

// trees tells the trees of an item, as they are ranked.
func (r ranking) trees(n int) iter.Seq[api.Tree] {
	return func(yield func(api.Tree) bool) {
		for rank := 0; ; rank++ {
			t, ok := r.tree(n, rank)
			if !ok || !yield(t.tree) {
				return
			}
		}
	}
}

// tree returns the tree of an item that has a rank; false if it has no more than that many trees.
func (r ranking) tree(n, rank int) (ranked, bool) {
	w := r.row(n)
	for len(w.done) <= rank && len(w.next) > 0 {
		first := w.next[0]
		w.next = w.next[1:]
		w.done = append(w.done, first.ranked)
		for _, c := range r.followers(first) {
			i, _ := slices.BinarySearchFunc(w.next, c, compareCandidates)
			w.next = slices.Insert(w.next, i, c)
		}
	}
	if len(w.done) <= rank {
		return ranked{}, false
	}
	return w.done[rank], true
}

// row returns the row of an item, to begin with the best tree of each of its edges.
func (r ranking) row(n int) *row {
	if r.rows[n] != nil {
		return r.rows[n]
	}
	w := &row{}
	r.rows[n] = w
	if x := r.nodes[n].item; x.Cat == "" {
		w.done = []ranked{{0, x.Lex}}
	}
	for _, g := range r.nodes[n].edges {
		if c, ok := r.made(candidate{edge: g}); ok {
			w.next = append(w.next, c)
		}
	}
	slices.SortFunc(w.next, compareCandidates)
	return w
}

// followers returns the candidates that differ from one in one rank, which is raised.
func (r ranking) followers(c candidate) []candidate {
	var out []candidate
	for i := c.part; i < len(c.edge.Kids); i++ {
		next := c
		next.ranks[i]++
		next.part = i
		if next, ok := r.made(next); ok {
			out = append(out, next)
		}
	}
	return out
}

// made returns a candidate with its tree; false if a kid has no tree of its rank.
func (r ranking) made(c candidate) (candidate, bool) {
	c.ranked = ranked{r.rules[c.edge.Rule].cost, api.Tree{Rule: c.edge.Rule}}
	for i, kid := range c.edge.Kids {
		t, ok := r.tree(kid, c.ranks[i])
		if !ok {
			return c, false
		}
		c.cost += t.cost
		c.tree.Kids = append(c.tree.Kids, t.tree)
	}
	return c, true
}

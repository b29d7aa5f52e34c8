package grammar

import (
	"cmp"
	"iter"
	"slices"

	"truchman/api"
)

// lexical is the Rule of lexical trees.
const lexical = -1

func isLexical(t api.Tree) bool { return t.Rule == lexical }

// fold goes through a tree: do makes something of each node, and of what it makes of its kids. The kids are gone through while do ranges over them, so do may look at a node first.
func fold[T any](t api.Tree, do func(t api.Tree, kids iter.Seq2[int, T]) T) T {
	return do(t, func(yield func(int, T) bool) {
		for i, kid := range t.Kids {
			if !yield(i, fold(kid, do)) {
				return
			}
		}
	})
}

// caught returns what run returns, or nothing and the error with which it was left by panic.
func caught[T any](run func() T) (out T, e api.Errno) {
	defer func() {
		if left := recover(); left != nil {
			e = left.(api.Errno)
		}
	}()
	return run(), api.OK
}

// size is how many nodes a tree has, and its depth.
type size struct{ nodes, depth int }

// Nodes returns the number of nodes and the depth of a tree.
func Nodes(t api.Tree) (nodes, depth int) {
	whole := fold(t, func(_ api.Tree, kids iter.Seq2[int, size]) size {
		out := size{1, 1}
		for _, kid := range kids {
			out.nodes += kid.nodes
			out.depth = max(out.depth, kid.depth+1)
		}
		return out
	})
	return whole.nodes, whole.depth
}

// fits reports whether a tree has at most MaxNodes nodes, and a depth of at most MaxDepth. It goes no further than that, however large the tree is.
func fits(t api.Tree) bool {
	nodes, depth := 0, 0
	return fold(t, func(_ api.Tree, kids iter.Seq2[int, bool]) bool {
		nodes++
		depth++
		if nodes > api.MaxNodes || depth > api.MaxDepth {
			return false
		}
		for _, ok := range kids {
			if !ok {
				return false
			}
		}
		depth--
		return true
	})
}

// Compare returns -1, 0 or 1 as a comes before b, is equal to it, or comes after it.
func Compare(a, b api.Tree) int {
	if c := cmp.Compare(a.Rule, b.Rule); c != 0 {
		return c
	}
	if isLexical(a) {
		return compareLexical(a, b)
	}
	return slices.CompareFunc(a.Kids, b.Kids, Compare)
}

func compareLexical(a, b api.Tree) int {
	return cmp.Or(
		cmp.Compare(len(a.From.Firsts), len(b.From.Firsts)),
		slices.CompareFunc(a.From.Firsts, b.From.Firsts, compareFirsts),
		cmp.Compare(a.From.Entry, b.From.Entry), cmp.Compare(a.From.Slot, b.From.Slot),
		cmp.Compare(a.Entry, b.Entry), cmp.Compare(a.Slot, b.Slot),
	)
}

func compareFirsts(a, b api.First) int {
	return cmp.Or(cmp.Compare(a.Entry, b.Entry), cmp.Compare(a.Slot, b.Slot), cmp.Compare(a.Link, b.Link))
}

// Flip exchanges the sides of a tree.
func Flip(t api.Tree) (api.Tree, api.Errno) {
	if !fits(t) {
		return api.Tree{}, api.ErrLimit
	}
	return caught(func() api.Tree {
		return fold(t, func(t api.Tree, kids iter.Seq2[int, api.Tree]) api.Tree {
			t = exchanged(t)
			t.Kids = nil
			for _, kid := range kids {
				t.Kids = append(t.Kids, kid)
			}
			return t
		})
	})
}

// exchanged returns a node whose analysis and form are exchanged, if it is lexical.
func exchanged(t api.Tree) api.Tree {
	if !isLexical(t) {
		t.From.Firsts = slices.Clone(t.From.Firsts)
		return t
	}
	if len(t.From.Firsts) > 0 {
		panic(api.ErrScope)
	}
	from := api.Analysis{Entry: t.Entry, Slot: t.Slot}
	t.Entry, t.Slot, t.From = t.From.Entry, t.From.Slot, from
	return t
}

package chart

import (
	"slices"

	"truchman/api"
	"truchman/grammar"
)

// Has reports whether a tree is one of an item.
func (f *Forest) Has(n int, t api.Tree) bool {
	x, e := f.node(n)
	return e == api.OK && f.find(t, x.item.From) == n
}

// Find returns the number of the first item of which a tree of a rule is one; -1 if there is none.
func (f *Forest) Find(t api.Tree) int {
	if !f.isMade() {
		return 0
	}
	if isLexical(t) {
		return -1
	}
	for from := range api.MaxSent {
		if n := f.find(t, from); n >= 0 {
			return n
		}
	}
	return -1
}

func isLexical(t api.Tree) bool { return t.Rule == -1 }

// find returns the number of the item from a place on of which a tree is one; -1 if there is none.
func (f *Forest) find(t api.Tree, from int) int {
	if isLexical(t) {
		return f.at(span{from, from + 1}, func(x node) bool { return isLeaf(x.item, t) })
	}
	if !f.hasShape(t) {
		return -1
	}
	g := Edge{t.Rule, make([]int, len(t.Kids))}
	to := from
	for _, x := range f.rules[t.Rule].source {
		if x.Part == 0 { // an edge that is there has the word there
			to++
			continue
		}
		kid := f.find(t.Kids[x.Part-1], to)
		if kid < 0 {
			return -1
		}
		g.Kids[x.Part-1] = kid
		to = f.nodes[kid].item.To
	}
	return f.at(span{from, to}, func(x node) bool {
		_, ok := slices.BinarySearchFunc(x.edges, g, compareEdges)
		return ok
	})
}

// isLeaf reports whether a lexical tree is that of an item.
func isLeaf(x Item, t api.Tree) bool {
	return x.Cat == "" && len(t.Kids) == 0 && grammar.Compare(x.Lex, t) == 0
}

// hasShape reports whether a tree is one of a rule, as far as its kids do not tell.
func (f *Forest) hasShape(t api.Tree) bool {
	return t.Rule >= 0 && t.Rule < len(f.rules) && len(t.Kids) == f.rules[t.Rule].parts &&
		len(t.From.Firsts) == 0 && t.From.Entry == 0 && t.From.Slot == 0 && t.Entry == 0 && t.Slot == 0
}

// at returns the number of the first item of a span that is wanted; -1 if there is none.
func (f *Forest) at(s span, wanted func(x node) bool) int {
	first, _ := slices.BinarySearchFunc(f.nodes, s, func(x node, s span) int { return compareSpans(x.span(), s) })
	for n := first; n < len(f.nodes) && f.nodes[n].span() == s; n++ {
		if wanted(f.nodes[n]) {
			return n
		}
	}
	return -1
}

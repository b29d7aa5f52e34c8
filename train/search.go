package train

import (
	"math"

	"truchman/api"
	"truchman/chart"
	"truchman/morph"
)

// span is the words of a target from one place to another.
type span struct{ from, to int }

// row is nodes, by the spans of their target words.
type row map[span]int

// place is an item of a forest whose target words begin at a place.
type place struct{ item, from int }

// searcher finds all trees of a forest that have some target words. It goes from a place on to where trees that begin there may end, so that it looks at no trees where none can stand in a whole one.
type searcher struct {
	*graph
	forest *chart.Forest
	rules  []api.Rule
	target []string
	leaves map[int]leaf   // of the lexical items
	rows   map[place]row  // as far as they were asked for
	sizes  map[int]bounds // of items, as far as they were asked for
}

// leaf is a lexical item: its node and its target word.
type leaf struct {
	node int
	word string
}

// search returns the graph of the trees of a forest's goals that have just these target words.
func search(s api.System, f *chart.Forest, target []string) *graph {
	b := &searcher{
		graph: newGraph(s.Rules), forest: f, rules: s.Rules, target: target,
		leaves: map[int]leaf{}, rows: map[place]row{}, sizes: map[int]bounds{},
	}
	b.plant(s.Target)
	var whole node
	for _, n := range f.Goals() {
		if !b.size(n).hold(len(target)) {
			continue // or a long target would be gone through in vain
		}
		if goal, ok := b.row(place{n, 0})[span{0, len(target)}]; ok {
			whole.ways = append(whole.ways, way{left: goal, right: b.nothing()})
		}
	}
	b.add(whole)
	return b.graph
}

// plant adds the nodes of all lexical items.
func (b *searcher) plant(target api.Lexicon) {
	forms := map[int][]string{} // by entries; morph.Forms looks at all of the lexicon each time
	for n := range b.forest.Len() {
		x, _ := b.forest.Item(n)
		if x.Cat != "" {
			continue
		}
		words, ok := forms[x.Lex.Entry]
		if !ok {
			words, _ = morph.Forms(target, x.Lex.Entry)
			forms[x.Lex.Entry] = words
		}
		b.leaves[n] = leaf{b.add(node{leaf: &x.Lex}), words[x.Lex.Slot]}
	}
}

// bounds is how many target words trees have, at least and at most.
type bounds struct{ least, most int }

func (s bounds) hold(n int) bool { return s.least <= n && n <= s.most }

// size returns the bounds of the trees of an item.
func (b *searcher) size(n int) bounds {
	if _, ok := b.leaves[n]; ok {
		return bounds{1, 1}
	}
	out, ok := b.sizes[n]
	if ok {
		return out
	}
	out = bounds{math.MaxInt, 0}
	edges, _ := b.forest.Edges(n)
	for _, g := range edges {
		size := b.sizeOf(g)
		out = bounds{min(out.least, size.least), max(out.most, size.most)}
	}
	b.sizes[n] = out
	return out
}

// sizeOf returns the bounds of the trees of an edge.
func (b *searcher) sizeOf(g chart.Edge) bounds {
	words := len(b.rules[g.Rule].Target) - len(g.Kids)
	out := bounds{words, words}
	for _, kid := range g.Kids {
		size := b.size(kid)
		out.least += size.least
		out.most += size.most
	}
	return out
}

// row returns the nodes of an item from a place on.
func (b *searcher) row(at place) row {
	out, ok := b.rows[at]
	if !ok {
		out = b.found(at)
		b.rows[at] = out
	}
	return out
}

func (b *searcher) found(at place) row {
	if x, ok := b.leaves[at.item]; ok {
		return b.passed(row{{at.from, at.from}: x.node}, x.word)
	}
	ways := map[span][]way{}
	edges, _ := b.forest.Edges(at.item)
	for _, g := range edges {
		for s, n := range b.laid(g, at.from) {
			ways[s] = append(ways[s], way{left: n, right: b.nothing()})
		}
	}
	return b.nodesOf(ways)
}

// laid returns the nodes of the trees of an edge from a place on.
func (b *searcher) laid(g chart.Edge, from int) row {
	out := row{{from, from}: g.Rule}
	for _, x := range b.rules[g.Rule].Target {
		if x.Part == 0 {
			out = b.passed(out, x.Word)
		} else {
			out = b.joined(out, g.Kids[x.Part-1], x.Part-1)
		}
	}
	return out
}

// passed returns those nodes behind whose words a word stands, by spans with that one too.
func (b *searcher) passed(left row, word string) row {
	out := row{}
	for s, n := range left {
		if s.to < len(b.target) && b.target[s.to] == word {
			out[span{s.from, s.to + 1}] = n
		}
	}
	return out
}

// joined returns what nodes become once trees of an item, whose words stand behind theirs, are kids for a part.
func (b *searcher) joined(left row, item, part int) row {
	ways := map[span][]way{}
	for s, n := range left {
		for t, kid := range b.row(place{item, s.to}) {
			both := span{s.from, t.to}
			ways[both] = append(ways[both], way{n, kid, part})
		}
	}
	return b.nodesOf(ways)
}

// nodesOf adds nodes by their ways.
func (b *searcher) nodesOf(ways map[span][]way) row {
	out := row{}
	for s, l := range ways {
		out[s] = b.add(node{ways: l})
	}
	return out
}

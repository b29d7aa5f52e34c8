package chart

import (
	"cmp"
	"iter"
	"slices"
	"sync"

	"truchman/api"
	"truchman/grammar"
	"truchman/morph"
)

// Parse returns the forest of a sentence.
func Parse(s api.System, words []string) (*Forest, api.Errno) {
	if e := grammar.Check(s); e != api.OK {
		return nil, e
	}
	if len(words) > api.MaxSent {
		return nil, api.ErrLimit
	}
	if slices.ContainsFunc(words, func(w string) bool { return !morph.Word(w) }) {
		return nil, api.ErrArg
	}
	b := newBuilder(s, words)
	for length := 1; length <= len(words); length++ {
		if !b.grow(length) {
			return nil, api.ErrLimit
		}
	}
	return b.forest(s.Start), api.OK
}

// use is a part of a rule, by both numbers from 0 on.
type use struct{ rule, part int }

// builder builds the forest of a sentence, from short spans to long ones.
type builder struct {
	words  []string
	rules  []rule
	order  []int              // in which rules are applied to a span
	uses   map[api.Part][]use // the parts of rules, by what they are
	leaves [][]*head          // the lexical items behind each place
	cells  map[span]*cell     // those that are whole
	heads  []*head            // of these cells, by their numbers
	edges  int                // of these heads
}

func newBuilder(s api.System, words []string) *builder {
	b := &builder{words: words, order: inOrder(s.Rules), uses: map[api.Part][]use{}, cells: map[span]*cell{}}
	for n, r := range s.Rules {
		b.rules = append(b.rules, newRule(s, r))
		for i, p := range r.Parts {
			b.uses[p] = append(b.uses[p], use{n, i})
		}
	}
	b.leaves = leavesOf(s, words)
	return b
}

// inOrder returns the numbers of rules, a chain behind all rules that make what it leads to, so that it finds all of that in its span. No chains lead back to where they begin.
func inOrder(rules []api.Rule) []int {
	var out, rest []int
	for n := range rules {
		rest = append(rest, n)
	}
	for len(rest) > 0 {
		var later []int
		for _, n := range rest {
			cat := chain(rules[n])
			if slices.ContainsFunc(rest, func(m int) bool { return rules[m].Left == cat }) {
				later = append(later, n)
			} else {
				out = append(out, n)
			}
		}
		rest = later
	}
	return out
}

// chain returns the category to which a rule is a chain; an empty string, which no rule has as its Left, if it is none.
func chain(r api.Rule) string {
	if len(r.Source) != 1 || r.Source[0].Part == 0 {
		return ""
	}
	return r.Parts[r.Source[0].Part-1].Cat
}

// head is an item while a forest is built.
type head struct {
	item   Item
	as     api.Part     // the part of a rule that it may stand for
	pair   grammar.Pair // the bundles, of a lexical item too
	edges  []link
	number int // once its span is whole
}

// link is an edge while a forest is built.
type link struct {
	rule int
	kids []*head
}

func compareHeads(a, b *head) int {
	if c := cmp.Compare(a.item.Cat, b.item.Cat); c != 0 {
		return c // an empty one is the least
	}
	if a.item.Cat == "" {
		return grammar.Compare(a.item.Lex, b.item.Lex)
	}
	return cmp.Or(
		slices.CompareFunc(a.item.Left, b.item.Left, compareFeats),
		slices.CompareFunc(a.item.Right, b.item.Right, compareFeats),
	)
}

func compareFeats(a, b api.Feat) int {
	return cmp.Or(cmp.Compare(a.Name, b.Name), cmp.Compare(a.Value, b.Value))
}

// grow finds the items of all spans of one length; false if there are too many, or too many edges.
func (b *builder) grow(length int) bool {
	spans := len(b.words) - length + 1
	cells := make(chan *cell, spans)
	var working sync.WaitGroup
	for from := range spans {
		working.Add(1)
		go func() {
			defer working.Done()
			cells <- b.fill(span{from, from + length})
		}()
	}
	working.Wait()
	close(cells)
	row := make([]*cell, spans)
	for c := range cells {
		row[c.from] = c
		b.edges += c.edges
	}
	for _, c := range row {
		b.cells[c.span] = c
		b.number(c.heads)
	}
	return len(b.heads) <= api.MaxHeads && b.edges <= api.MaxEdges
}

// number puts the items of a span in order, and gives them their numbers.
func (b *builder) number(heads []*head) {
	slices.SortFunc(heads, compareHeads)
	for _, h := range heads {
		h.number = len(b.heads)
		b.heads = append(b.heads, h)
	}
}

// fill finds the items of a span. With more edges than a forest may have it stops.
func (b *builder) fill(s span) *cell {
	c := &cell{span: s, found: map[key]*head{}, groups: map[use][]group{}, solved: map[question]answer{}}
	if s.length() == 1 {
		for _, h := range b.leaves[s.from] {
			b.put(c, h)
		}
	}
	for _, n := range b.order {
		for parts := range b.layouts(c, n) {
			for chosen, left := range c.solutions(n, b.rules[n], parts) {
				h := b.headOf(c, b.rules[n].Left, left)
				for kids := range choices(headsOf(chosen)) {
					h.edges = append(h.edges, link{n, kids})
					c.edges++
					if c.edges > api.MaxEdges {
						return c
					}
				}
			}
		}
	}
	return c
}

// headOf returns the item of a cell with a category and a pair, which is put there if it is new.
func (b *builder) headOf(c *cell, cat string, pair grammar.Pair) *head {
	k := key{cat, printPair(pair)}
	h, ok := c.found[k]
	if !ok {
		h = &head{
			item: Item{From: c.from, To: c.to, Cat: cat, Left: pair.Source, Right: pair.Target},
			as:   api.Part{Cat: cat}, pair: pair,
		}
		c.found[k] = h
		b.put(c, h)
	}
	return h
}

// put puts an item into a cell, and into the groups of the parts for which it may stand.
func (b *builder) put(c *cell, h *head) {
	c.heads = append(c.heads, h)
	for _, u := range b.uses[h.as] {
		c.join(u, h, b.rules[u.rule].seen(u.part, h.pair))
	}
}

// layouts tells all ways to lay the source side of a rule over a span: of each part the groups of its items.
func (b *builder) layouts(c *cell, n int) iter.Seq[[][]group] {
	return func(yield func([][]group) bool) {
		parts := make([][]group, len(b.rules[n].Parts))
		var lay func(from int, items []api.Item) bool
		lay = func(from int, items []api.Item) bool {
			if len(items) == 0 {
				return from < c.to || yield(parts)
			}
			x, rest := items[0], items[1:]
			if x.Part == 0 {
				return from == c.to || b.words[from] != x.Word || lay(from+1, rest)
			}
			for to := from + 1; to <= c.to-len(rest); to++ { // no item is without words
				groups := b.cellAt(c, span{from, to}).groups[use{n, x.Part - 1}]
				parts[x.Part-1] = groups
				if len(groups) > 0 && !lay(to, rest) {
					return false
				}
			}
			return true
		}
		lay(c.from, b.rules[n].Source)
	}
}

// cellAt returns the cell of a span, while c is filled. Of c itself a rule asks for items that are all there: lexical ones, or those to which it is a chain.
func (b *builder) cellAt(c *cell, s span) *cell {
	if s == c.span {
		return c
	}
	return b.cells[s]
}

// forest returns the forest, once all cells are whole.
func (b *builder) forest(start string) *Forest {
	f := &Forest{made: true}
	for _, r := range b.rules {
		f.rules = append(f.rules, shape{r.Cost, len(r.Parts), slices.Clone(r.Source)})
	}
	whole := span{0, len(b.words)}
	for _, h := range b.heads {
		x := node{item: h.item}
		x.goal = x.item.Cat == start && x.span() == whole
		for _, l := range h.edges {
			g := Edge{Rule: l.rule}
			for _, kid := range l.kids {
				g.Kids = append(g.Kids, kid.number)
			}
			x.edges = append(x.edges, g)
		}
		slices.SortFunc(x.edges, compareEdges)
		f.nodes = append(f.nodes, x)
	}
	f.weigh()
	return f
}

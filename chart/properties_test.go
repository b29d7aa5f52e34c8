package chart_test

import (
	"cmp"
	"math/rand/v2"
	"slices"
	"testing"

	"truchman/api"
	"truchman/chart"
	"truchman/grammar"
	"truchman/morph"
)

// Tests of P4.1 to P4.8, of P0.1 and of P0.3, with many values that a seed makes. Forests are held against trees that are all found and kept one by one.

// names are the categories of the systems that are made.
var names = []string{"A", "B", "C", "S"}

// anyLexicon makes a valid lexicon with the lemmas x and y.
func anyLexicon(t *testing.T, r *rand.Rand) api.Lexicon {
	t.Helper()
	feats := func() []api.Feat { return b(pick(r, "", "", "a=p", "a=q", "b=p", "b=r", "a=p b=p", "a=q b=r")) }
	for range 1000 {
		l := api.Lexicon{
			Vowels: "a",
			Traits: []api.Trait{{Name: "b", Values: pick(r, []string{"p", "r"}, []string{"r", "p"}, []string{"p"})}, {Name: "a", Values: pick(r, []string{"p", "q"}, []string{"q"})}},
			Links:  some(r, 2, func() api.Link { return api.Link{Class: pick(r, "n", "v"), Feats: feats()} }),
		}
		for _, name := range []string{"n", "v"} {
			slots := some(r, 1, func() api.Slot { return api.Slot{Cut: pick(r, 0, 0, 2), Add: pick(r, "", "y"), Feats: feats()} })
			l.Classes = append(l.Classes, api.Class{Name: name, Slots: append(slots, api.Slot{Feats: feats()})})
		}
		for _, lemma := range []string{"x", "y", pick(r, "xx", "x")} {
			n := api.Entry{Lemma: lemma, Class: pick(r, "n", "v"), Feats: feats()}
			n.Forms = some(r, 1, func() api.Irregular { return api.Irregular{Slot: r.IntN(2), Word: pick(r, "", "x")} })
			l.Entries = append(l.Entries, n)
		}
		if morph.Check(l) == api.OK {
			return l
		}
	}
	t.Fatal("no lexicon is valid")
	return api.Lexicon{}
}

func anyPart(r *rand.Rand) api.Part {
	if r.IntN(2) == 0 {
		return api.Part{Cat: pick(r, names...)}
	}
	return api.Part{From: pick(r, "x", "y"), To: pick(r, "x", "y")}
}

func anyPath(r *rand.Rand, parts int) api.Path {
	return api.Path{Node: r.IntN(parts + 1), Target: r.IntN(2) == 0, Name: pick(r, "a", "b")}
}

// anyItems puts parts in some order, with words between them.
func anyItems(r *rand.Rand, parts, words int) []api.Item {
	var out []api.Item
	for _, i := range r.Perm(parts) {
		out = append(out, api.Item{Part: i + 1})
	}
	for range r.IntN(words + 1) {
		out = slices.Insert(out, r.IntN(len(out)+1), api.Item{Word: pick(r, "x", "y", "1")})
	}
	return out
}

func anyRule(r *rand.Rand) api.Rule {
	out := api.Rule{Left: pick(r, names...), Parts: some(r, api.MaxParts, func() api.Part { return anyPart(r) }), Cost: r.IntN(4)}
	parts := len(out.Parts)
	out.Source, out.Target = anyItems(r, parts, 1), anyItems(r, parts, 1)
	out.Equations = some(r, 3, func() api.Equation {
		if r.IntN(3) == 0 {
			return api.Equation{A: anyPath(r, parts), Value: pick(r, "p", "q", "r")}
		}
		return api.Equation{A: anyPath(r, parts), B: anyPath(r, parts)}
	})
	return out
}

// anySystem makes a valid system.
func anySystem(t *testing.T, r *rand.Rand) api.System {
	t.Helper()
	s := api.System{Source: anyLexicon(t, r), Target: anyLexicon(t, r), Start: pick(r, names...)}
	for range 4 + r.IntN(20) {
		more := s
		more.Rules = append(slices.Clone(s.Rules), anyRule(r))
		if grammar.Check(more) == api.OK {
			s = more
		}
	}
	return s
}

func anyWords(r *rand.Rand, most int) []string {
	return some(r, most, func() string { return pick(r, "x", "x", "y", "1", "xx", "xy") })
}

// known is a tree that is found, and where it stands.
type known struct {
	tree     api.Tree
	from, to int
	cat      string
	left     []api.Feat
	right    []api.Feat
	cost     int
}

// tooMany is how many trees are too many to be kept.
const tooMany = 3000

// finder finds all trees of a sentence.
type finder struct {
	s     api.System
	words []string
	done  map[finding][]known
	count int
}

// finding is what trees are asked for: those for a part that span some words.
type finding struct {
	part     api.Part
	from, to int
}

func (f *finder) find(g finding) []known {
	if out, ok := f.done[g]; ok {
		return out
	}
	var out []known
	if g.part.Cat == "" {
		out = f.lexical(g)
	} else {
		for n, r := range f.s.Rules {
			if r.Left == g.part.Cat {
				out = append(out, f.ofRule(n, g)...)
			}
		}
	}
	f.count += len(out)
	f.done[g] = out
	return out
}

func (f *finder) lexical(g finding) []known {
	var out []known
	if g.to != g.from+1 {
		return nil
	}
	analyses, _ := morph.Analyze(f.s.Source, f.words[g.from])
	for _, a := range analyses {
		for entry, n := range f.s.Target.Entries {
			forms, _ := morph.Forms(f.s.Target, entry)
			for slot, form := range forms {
				if form != "" && n.Lemma == g.part.To && f.s.Source.Entries[a.Entry].Lemma == g.part.From {
					out = append(out, known{tree: api.Tree{Rule: -1, From: a, Entry: entry, Slot: slot}, from: g.from, to: g.to})
				}
			}
		}
	}
	return out
}

// ofRule tries all kids at all spans, and keeps the trees that have a reading.
func (f *finder) ofRule(n int, g finding) []known {
	var out []known
	r := f.s.Rules[n]
	kids := make([]api.Tree, len(r.Parts))
	var try func(items []api.Item, from int)
	try = func(items []api.Item, from int) {
		if f.count+len(out) > tooMany {
			return
		}
		if len(items) == 0 {
			if from != g.to {
				return
			}
			x := api.Tree{Rule: n, Kids: slices.Clone(kids)}
			got, e := grammar.Derive(f.s, x)
			if e == api.OK && slices.Equal(got.Source, f.words[g.from:g.to]) {
				out = append(out, known{x, g.from, g.to, got.Cat, got.Left, got.Right, got.Cost})
			}
			return
		}
		if items[0].Part == 0 {
			try(items[1:], from+1)
			return
		}
		for to := from + 1; to <= g.to && g.to-to >= len(items)-1; to++ {
			for _, kid := range f.find(finding{r.Parts[items[0].Part-1], from, to}) {
				kids[items[0].Part-1] = kid.tree
				try(items[1:], to)
			}
		}
	}
	try(r.Source, g.from)
	return out
}

// allOf finds all trees of a sentence, of rules and for lexical parts; false if they are too many.
func allOf(s api.System, words []string) ([]known, bool) {
	f := &finder{s: s, words: words, done: map[finding][]known{}}
	parts := map[api.Part]bool{}
	for _, r := range s.Rules {
		parts[api.Part{Cat: r.Left}] = true
		for _, p := range r.Parts {
			if p.Cat == "" {
				parts[p] = true
			}
		}
	}
	var out []known
	for from := range words {
		for to := from + 1; to <= len(words); to++ {
			for p := range parts {
				out = append(out, f.find(finding{p, from, to})...)
			}
		}
	}
	return out, f.count <= tooMany
}

func (k known) item() chart.Item {
	out := chart.Item{From: k.from, To: k.to, Cat: k.cat, Left: k.left, Right: k.right}
	if k.cat == "" {
		out.Lex = k.tree
	}
	return out
}

func compareBundles(x, y []api.Feat) int {
	return slices.CompareFunc(x, y, func(a, b api.Feat) int { return cmp.Or(cmp.Compare(a.Name, b.Name), cmp.Compare(a.Value, b.Value)) })
}

// compareItems puts items in order, as the chapter says.
func compareItems(x, y chart.Item) int {
	if c := cmp.Or(cmp.Compare(x.To-x.From, y.To-y.From), cmp.Compare(x.From, y.From)); c != 0 {
		return c
	}
	if x.Cat == "" && y.Cat == "" {
		return grammar.Compare(x.Lex, y.Lex)
	}
	return cmp.Or(cmp.Compare(x.Cat, y.Cat), compareBundles(x.Left, y.Left), compareBundles(x.Right, y.Right))
}

func compareEdges(x, y chart.Edge) int {
	return cmp.Or(cmp.Compare(x.Rule, y.Rule), slices.Compare(x.Kids, y.Kids))
}

// tableOf makes of all trees the sheet of their forest.
func tableOf(s api.System, words []string, all []known) sheet {
	var out sheet
	for _, k := range all {
		out.items = append(out.items, k.item())
	}
	slices.SortFunc(out.items, compareItems)
	out.items = slices.CompactFunc(out.items, sameItem)
	out.edges = make([][]chart.Edge, len(out.items))
	place := func(k known) int {
		n, _ := slices.BinarySearchFunc(out.items, k.item(), compareItems)
		return n
	}
	places := map[string][]known{} // by the texts of trees
	for _, k := range all {
		places[written(k.tree)] = append(places[written(k.tree)], k)
	}
	for _, k := range all {
		if k.cat == "" {
			continue
		}
		g := chart.Edge{Rule: k.tree.Rule, Kids: make([]int, len(k.tree.Kids))}
		at := k.from
		for _, x := range s.Rules[k.tree.Rule].Source {
			if x.Part == 0 {
				at++
				continue
			}
			kid := places[written(k.tree.Kids[x.Part-1])]
			kid = kid[slices.IndexFunc(kid, func(k known) bool { return k.from == at }):]
			g.Kids[x.Part-1] = place(kid[0])
			at = kid[0].to
		}
		out.edges[place(k)] = append(out.edges[place(k)], g)
	}
	for n, x := range out.items {
		slices.SortFunc(out.edges[n], compareEdges)
		out.edges[n] = slices.CompactFunc(out.edges[n], sameEdge)
		if x.Cat == s.Start && x.From == 0 && x.To == len(words) {
			out.goals = append(out.goals, n)
		}
	}
	return out
}

// planted is a tree of an item with its nodes, itself first.
type planted struct {
	tree  api.Tree
	cost  int
	nodes []placed
}

// placed is the number of the item at a node, that of its edge there, and the cost of the tree that stands there.
type placed struct{ item, edge, cost int }

// treesOf makes all trees of each item of a sheet, of its edges; false if they are too many. They are ranked.
func treesOf(s api.System, h sheet) ([][]planted, bool) {
	out := make([][]planted, len(h.items))
	done := make([]bool, len(h.items))
	count := 0
	var grow func(n int)
	grow = func(n int) {
		if done[n] {
			return
		}
		done[n] = true
		if h.items[n].Cat == "" {
			out[n] = []planted{{h.items[n].Lex, 0, []placed{{n, -1, 0}}}}
		}
		for i, g := range h.edges[n] {
			trees := []planted{{api.Tree{Rule: g.Rule}, s.Rules[g.Rule].Cost, nil}}
			for _, kid := range g.Kids {
				grow(kid)
				var more []planted
				for _, x := range trees {
					for _, y := range out[kid] {
						count++
						if count > 10*tooMany {
							return
						}
						x := planted{x.tree, x.cost + y.cost, slices.Concat(x.nodes, y.nodes)}
						x.tree.Kids = append(slices.Clone(x.tree.Kids), y.tree)
						more = append(more, x)
					}
				}
				trees = more
			}
			for _, x := range trees {
				x.nodes = append([]placed{{n, i, x.cost}}, x.nodes...)
				out[n] = append(out[n], x)
			}
		}
		slices.SortFunc(out[n], func(x, y planted) int { return cmp.Or(cmp.Compare(x.cost, y.cost), grammar.Compare(x.tree, y.tree)) })
	}
	for n := range h.items {
		grow(n)
	}
	return out, count <= 10*tooMany
}

// outsides returns the outside costs of the items of a sheet; -1 if there is none.
func outsides(h sheet, trees [][]planted) []int {
	out := make([]int, len(h.items))
	for n := range out {
		out[n] = -1
	}
	for _, goal := range h.goals {
		for _, x := range trees[goal] {
			for _, p := range x.nodes {
				if around := x.cost - p.cost; out[p.item] < 0 || around < out[p.item] {
					out[p.item] = around
				}
			}
		}
	}
	return out
}

// holds compares all that a forest says of its trees with the trees of its sheet.
func holds(t *testing.T, r *rand.Rand, s api.System, f *chart.Forest, h sheet, trees [][]planted) {
	t.Helper()
	around := outsides(h, trees)
	for n, l := range trees {
		if c := f.Count(n); c != uint64(len(l)) {
			t.Fatalf("%v: item %d: count %d, but %d trees", s.Rules, n, c, len(l))
		}
		if cost, e := f.Inside(n); e != api.OK || cost != l[0].cost {
			t.Fatalf("%v: item %d: inside cost %d, want %d", s.Rules, n, cost, l[0].cost)
		}
		cost, e := f.Outside(n)
		if around[n] < 0 && (e != api.ErrNone || cost != 0) || around[n] >= 0 && (e != api.OK || cost != around[n]) {
			t.Fatalf("%v: item %d: outside cost %d, error %d, want %d", s.Rules, n, cost, e, around[n])
		}
		k := 1 + r.IntN(api.MaxBest)
		got, e := f.Best(n, k)
		if e != api.OK || len(got) != min(k, len(l)) {
			t.Fatalf("%v: item %d: %d trees of %d, %d are asked for, error %d", s.Rules, n, len(got), len(l), k, e)
		}
		for i, x := range got {
			if !sameTree(x, l[i].tree) {
				t.Fatalf("%v: item %d: rank %d: %s, want %s", s.Rules, n, i, written(x), written(l[i].tree))
			}
		}
	}
}

// finds compares Has and Find with trees that are one of some items.
func finds(t *testing.T, r *rand.Rand, f *chart.Forest, trees [][]planted) {
	t.Helper()
	homes := map[string][]int{}
	for n, l := range trees {
		for _, x := range l {
			homes[written(x.tree)] = append(homes[written(x.tree)], n)
		}
	}
	for range min(len(trees), 50) {
		l := pick(r, trees...)
		x := pick(r, l...).tree
		want := homes[written(x)]
		first := want[0]
		if x.Rule == -1 {
			first = -1
		}
		if got := f.Find(x); got != first {
			t.Fatalf("%s: found %d, want %d", written(x), got, first)
		}
		for n := range trees {
			if f.Has(n, x) != slices.Contains(want, n) {
				t.Fatalf("%s: item %d, want %v", written(x), n, want)
			}
		}
	}
}

// cut prunes a sheet, as the chapter says.
func cut(h sheet, trees [][]planted, beam int) sheet {
	least := -1
	for _, goal := range h.goals {
		if cost := trees[goal][0].cost; least < 0 || cost < least {
			least = cost
		}
	}
	items, edges := map[int]bool{}, map[[2]int]bool{}
	for _, goal := range h.goals {
		for _, x := range trees[goal] {
			if x.cost-least > beam {
				continue
			}
			for _, p := range x.nodes {
				items[p.item], edges[[2]int{p.item, p.edge}] = true, true
			}
		}
	}
	var out sheet
	numbers := map[int]int{}
	for n, x := range h.items {
		if items[n] {
			numbers[n] = len(out.items)
			out.items = append(out.items, x)
		}
	}
	for n := range h.items {
		if !items[n] {
			continue
		}
		var left []chart.Edge
		for i, g := range h.edges[n] {
			if edges[[2]int{n, i}] {
				kids := []int{}
				for _, kid := range g.Kids {
					kids = append(kids, numbers[kid])
				}
				left = append(left, chart.Edge{Rule: g.Rule, Kids: kids})
			}
		}
		out.edges = append(out.edges, left)
		if slices.Contains(h.goals, n) {
			out.goals = append(out.goals, numbers[n])
		}
	}
	return out
}

// whole makes a system and words that it derives: those of a tree of many words.
func whole(t *testing.T, r *rand.Rand, most int) (api.System, []string) {
	t.Helper()
	for {
		s, words := anySystem(t, r), anyWords(r, most)
		f, e := chart.Parse(s, words)
		if e != api.OK {
			t.Fatalf("%v: %q: error %d", s, words, e)
		}
		if f.Len() == 0 {
			continue
		}
		x, _ := f.Item(f.Len() - 1 - r.IntN(min(3, f.Len())))
		if x.Cat != "" {
			s.Start = x.Cat
			return s, words[x.From:x.To]
		}
	}
}

// seen counts what forests had.
type seen struct{ forests, goals, ambiguous, bundles, chained, cut int }

func (c *seen) count(h sheet, trees [][]planted) {
	c.forests++
	c.goals += len(h.goals)
	for n, x := range h.items {
		if len(trees[n]) > 5 {
			c.ambiguous++
		}
		if n > 0 && x.Cat != "" && x.Cat == h.items[n-1].Cat && x.From == h.items[n-1].From && x.To == h.items[n-1].To {
			c.bundles++
		}
		for _, g := range h.edges[n] {
			if len(g.Kids) == 1 && h.items[g.Kids[0]].Cat != "" && h.items[g.Kids[0]].To-h.items[g.Kids[0]].From == x.To-x.From {
				c.chained++
			}
		}
	}
}

// again finds all trees of a sentence, and holds its forest against them, as it is, pruned, and pruned once more.
func again(t *testing.T, r *rand.Rand, s api.System, words []string, c *seen) {
	t.Helper()
	all, ok := allOf(s, words)
	if !ok {
		return
	}
	want := tableOf(s, words, all)
	f, e := chart.Parse(s, words)
	if e != api.OK || !sameSheet(sheetOf(t, f), want) {
		t.Fatalf("%v: %q: error %d\n%q\nwant\n%q", s, words, e, sheetOf(t, f).lines(), want.lines())
	}
	for i := range 3 {
		trees, ok := treesOf(s, want)
		if !ok {
			t.Fatal("more trees than were found")
		}
		holds(t, r, s, f, want, trees)
		finds(t, r, f, trees)
		if i == 0 {
			c.count(want, trees)
		}
		beam := r.IntN(6)
		less := cut(want, trees, beam)
		f = pruned(t, f, beam)
		if !sameSheet(sheetOf(t, f), less) {
			t.Fatalf("%v: %q: beam %d\n%q\nwant\n%q", s.Rules, words, beam, sheetOf(t, f).lines(), less.lines())
		}
		if len(less.goals) > 0 && len(less.items) < len(want.items) {
			c.cut++
		}
		want = less
	}
}

// P4.1 to P4.8, P0.3: a forest is just that of all trees, and so is a pruned one.
func TestForestsAgain(t *testing.T) {
	r := dice()
	var c seen
	for range 5 * rounds {
		again(t, r, anySystem(t, r), anyWords(r, 5), &c)
	}
	for range 8 * rounds {
		s, words := whole(t, r, 6)
		again(t, r, s, words, &c)
	}
	if least := min(c.forests, c.goals, c.ambiguous, c.bundles, c.chained, c.cut); least < rounds {
		t.Errorf("too little was seen: %+v", c)
	}
}

// P4.8: what follows, of forests that have more trees than can be kept.
func TestWhatFollows(t *testing.T) {
	r := dice()
	var trees int
	for range 4 * rounds {
		s, words := whole(t, r, 12)
		f, _ := chart.Parse(s, words)
		least := -1
		for _, n := range f.Goals() {
			if least < 0 || inside(t, f, n) < least {
				least = inside(t, f, n)
			}
		}
		if least < 0 {
			t.Fatalf("%v: %q: no goal", s, words)
		}
		for n := range f.Len() {
			if out, e := f.Outside(n); e == api.OK && out+inside(t, f, n) < least {
				t.Fatalf("%v: %q: item %d", s, words, n)
			}
		}
		beam := r.IntN(4)
		g := pruned(t, f, beam)
		for _, n := range f.Goals() {
			x, _ := f.Item(n)
			last := -1
			for i, y := range best(t, f, n, api.MaxBest) {
				got, e := grammar.Derive(s, y)
				if e != api.OK || got.Cat != s.Start || !slices.Equal(got.Source, words) || !slices.Equal(got.Left, x.Left) || !slices.Equal(got.Right, x.Right) {
					t.Fatalf("%v: %q: %s: %v, error %d", s, words, written(y), got, e)
				}
				if got.Cost < last || i == 0 && got.Cost != inside(t, f, n) || !f.Has(n, y) || f.Find(y) != n {
					t.Fatalf("%v: %q: %s", s, words, written(y))
				}
				last = got.Cost
				trees++
				if home := g.Find(y); got.Cost-least <= beam && (home < 0 || !sameTree(best(t, g, home, api.MaxBest)[i], y)) {
					t.Fatalf("%v: %q: %s is cut", s, words, written(y))
				}
			}
		}
	}
	if trees < 10*rounds {
		t.Errorf("just %d trees", trees)
	}
}

// P0.1: any arguments are answered.
func TestAnyArguments(t *testing.T) {
	r := dice()
	number := func() int { return pick(r, -1<<63, -2, -1, -1, 0, 0, 1, 2, 1<<31, 1<<63-1) }
	var anyTree func(depth int) api.Tree
	anyTree = func(depth int) api.Tree {
		t := api.Tree{Rule: number()}
		if r.IntN(4) == 0 {
			t.Entry, t.Slot, t.From.Entry, t.From.Slot = number(), number(), number(), number()
		}
		t.From.Firsts = some(r, 1, func() api.First { return api.First{Entry: number(), Slot: number(), Link: number()} })
		if depth > 0 {
			t.Kids = some(r, 3, func() api.Tree { return anyTree(depth - 1) })
		}
		return t
	}
	for range 10 * rounds {
		s := anySystem(t, r)
		switch r.IntN(6) {
		case 0:
			s.Start = pick(r, "", "\xff")
		case 1:
			s.Rules = append(s.Rules, api.Rule{Left: "A", Cost: number(), Source: []api.Item{{Part: number()}}})
		case 2:
			s.Source.Vowels = "zz"
		}
		words := some(r, 18, func() string { return pick(r, "x", "y", "xy", "x", "", "\x00") })
		f, e := chart.Parse(s, words)
		if first := grammar.Check(s); first != api.OK && e != first || (f == nil) != (e != api.OK) {
			t.Fatalf("%v: error %d", s, e)
		}
		if r.IntN(2) == 0 {
			f, _ = f.Prune(number())
		}
		n, x := number(), anyTree(3)
		f.Has(n, x)
		f.Find(x)
		f.Count(n)
		if l, e := f.Best(n, number()); (len(l) > 0) != (e == api.OK) {
			t.Fatal(l, e)
		}
		f.Outside(n)
		if f.Len() > 0 && f.Find(x) >= 0 && !f.Has(f.Find(x), x) {
			t.Fatal(x)
		}
	}
}

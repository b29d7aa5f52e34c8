package decode_test

import (
	"cmp"
	"fmt"
	"iter"
	"math"
	"math/rand/v2"
	"slices"
	"strings"
	"testing"

	"truchman/api"
	"truchman/chart"
	"truchman/decode"
	"truchman/grammar"
	"truchman/morph"
)

// Tests of P5.1 to P5.7, of P0.1, P0.3 and P0.4, with many values that a seed makes. What package decode says is held against all trees of a forest, made one by one, and against all choices of states.

// sides are lexicons of the source and of the target language. A target word may have no form, or several that are equal.
var (
	sourceTexts = []string{
		"vowels a\ntrait f p q\nclass n\nslot 0 - - f=p\nslot 0 - - f=q\nentry x n\nentry y n\n",
		"vowels a\ntrait f p q\nclass n\nslot 0 - -\nentry x n\nentry y n\nlink n -\n",
	}
	targetTexts = []string{
		"vowels a\ntrait f p q\nclass n\nslot 0 - - f=p\nslot 0 - a f=q\nslot 0 - b\nentry x n\nentry y n\n",
		"vowels a\ntrait f p q\nclass n\nslot 0 - -\nslot 0 - -\nentry x n\nform 1 u\nentry y n\nform 0 -\n",
		"vowels a\ntrait f p q\nclass n\nslot 0 - - f=p\nclass m\nslot 0 - - f=q\nentry x n\nentry x m\nentry y n\n",
	}
	cats = []string{"A", "B", "S"}
)

func anyPart(r *rand.Rand) api.Part {
	if r.IntN(3) > 0 {
		return api.Part{Cat: pick(r, cats...)}
	}
	return api.Part{From: pick(r, "x", "y"), To: pick(r, "x", "y")}
}

// anyItems puts parts in some order, with some words between them.
func anyItems(r *rand.Rand, parts, words int) []api.Item {
	var out []api.Item
	for _, i := range r.Perm(parts) {
		out = append(out, api.Item{Part: i + 1})
	}
	for range r.IntN(words + 1) {
		out = slices.Insert(out, r.IntN(len(out)+1), api.Item{Word: pick(r, "x", "y", "u")})
	}
	return out
}

func anyRule(r *rand.Rand) api.Rule {
	out := api.Rule{Left: pick(r, cats...), Parts: some(r, pick(r, 0, 2, 2, 3, 4), func() api.Part { return anyPart(r) }), Cost: r.IntN(4)}
	parts := len(out.Parts)
	out.Source, out.Target = anyItems(r, parts, 1), anyItems(r, parts, 2)
	path := func() api.Path {
		return api.Path{Node: r.IntN(parts + 1), Target: r.IntN(2) == 0, Name: "f"}
	}
	if r.IntN(3) == 0 {
		out.Equations = some(r, 2, func() api.Equation { return api.Equation{A: path(), B: path()} })
	}
	return out
}

// anySystem makes a valid system.
func anySystem(r *rand.Rand) api.System {
	s := api.System{Source: lexicon(pick(r, sourceTexts...)), Target: lexicon(pick(r, targetTexts...)), Start: pick(r, cats...)}
	for range 5 + r.IntN(16) {
		more := s
		more.Rules = append(slices.Clone(s.Rules), anyRule(r))
		if grammar.Check(more) == api.OK {
			s = more
		}
	}
	return s
}

// anyModel makes a valid model, of words that trees have, and of others.
func anyModel(r *rand.Rand) api.Model {
	cost := func() int { return pick(r, 0, 0, 1, 2, 3, 5) }
	m := api.Model{Unknown: cost()}
	places := []string{"", "u", "x", "xa", "xb", "y", "ya", "yb", "z"}
	for _, w := range places {
		if r.IntN(2) == 0 {
			m.Words = append(m.Words, api.Uni{Word: w, Cost: cost(), Back: cost()})
		}
		for _, v := range places {
			if r.IntN(4) == 0 {
				m.Pairs = append(m.Pairs, api.Bi{First: w, Second: v, Cost: cost()})
			}
		}
	}
	return m
}

func anyWords(r *rand.Rand, most int) []string {
	return some(r, most, func() string { return pick(r, "x", "x", "y", "u", "xy") })
}

// whole makes a system and words that it derives.
func whole(t *testing.T, r *rand.Rand, most int) (api.System, []string) {
	t.Helper()
	for {
		s, words := anySystem(r), anyWords(r, most)
		f, e := chart.Parse(s, words)
		if e != api.OK {
			t.Fatalf("%v: %q: error %d", s, words, e)
		}
		if f.Len() == 0 {
			continue
		}
		x, _ := f.Item(f.Len() - 1 - r.IntN(min(3, f.Len())))
		if x.Cat != "" {
			s.Start = x.Cat
			return s, words[x.From:x.To]
		}
	}
}

// known is a tree with its target words.
type known struct {
	tree  api.Tree
	words []string
	cost  int // of its reading
	inner int // with the steps between its words
}

func (k known) ends() [2]string {
	if len(k.words) == 0 {
		return [2]string{}
	}
	return [2]string{k.words[0], k.words[len(k.words)-1]}
}

// tooMany is how many trees are too many to be kept.
const tooMany = 3000

// world is all that there is to a sentence, looked at one by one.
type world struct {
	s     api.System
	m     api.Model
	words []string
	f     *chart.Forest
	trees [][]known // of each item
	up    []int     // the items, each behind the kids of its edges
	steps map[[2]string]int
}

func (w *world) step(a, b string) int {
	n, ok := w.steps[[2]string{a, b}]
	if !ok {
		n, _ = decode.Step(w.m, a, b)
		w.steps[[2]string{a, b}] = n
	}
	return n
}

// leaf is a lexical tree.
func (w *world) leaf(x api.Tree) known {
	form, e := morph.Form(w.s.Target, x.Entry, x.Slot)
	if e != api.OK {
		panic(e)
	}
	return known{tree: x, words: []string{form}}
}

// grown is a tree of a rule, by its kids.
func (w *world) grown(rule int, kids []known) known {
	r := w.s.Rules[rule]
	out := known{tree: api.Tree{Rule: rule}, cost: r.Cost}
	for _, kid := range kids {
		out.tree.Kids = append(out.tree.Kids, kid.tree)
		out.cost += kid.cost
	}
	for _, x := range r.Target {
		if x.Part == 0 {
			out.words = append(out.words, x.Word)
		} else {
			out.words = append(out.words, kids[x.Part-1].words...)
		}
	}
	out.inner = out.cost
	for i := range max(len(out.words)-1, 0) {
		out.inner += w.step(out.words[i], out.words[i+1])
	}
	return out
}

// product tells all lists that have an element of each of some lists.
func product[T any](lists [][]T) iter.Seq[[]T] {
	return func(yield func([]T) bool) {
		at := make([]int, len(lists))
		if slices.ContainsFunc(lists, func(l []T) bool { return len(l) == 0 }) {
			return
		}
		for {
			var one []T
			for i, l := range lists {
				one = append(one, l[at[i]])
			}
			if !yield(one) {
				return
			}
			i := len(at) - 1
			for ; i >= 0 && at[i] == len(lists[i])-1; i-- {
				at[i] = 0
			}
			if i < 0 {
				return
			}
			at[i]++
		}
	}
}

func kidsOf[T any](g chart.Edge, rows [][]T) [][]T {
	var out [][]T
	for _, kid := range g.Kids {
		out = append(out, rows[kid])
	}
	return out
}

func edges(f *chart.Forest, n int) []chart.Edge {
	l, e := f.Edges(n)
	if e != api.OK {
		panic(e)
	}
	return l
}

func lexical(f *chart.Forest, n int) (api.Tree, bool) {
	x, e := f.Item(n)
	if e != api.OK {
		panic(e)
	}
	return x.Lex, x.Cat == ""
}

// worldOf makes the world of a sentence; false if it has too many trees.
func worldOf(t *testing.T, s api.System, m api.Model, words []string) (*world, bool) {
	t.Helper()
	f, e := chart.Parse(s, words)
	if e != api.OK {
		t.Fatalf("%v: %q: error %d", s, words, e)
	}
	w := &world{s: s, m: m, words: words, f: f, trees: make([][]known, f.Len()), steps: map[[2]string]int{}}
	var count uint64
	for n := range f.Len() {
		if count += f.Count(n); f.Count(n) > tooMany || count > tooMany {
			return w, false
		}
	}
	var grow func(n int)
	grow = func(n int) {
		if slices.Contains(w.up, n) {
			return
		}
		if x, ok := lexical(f, n); ok {
			w.trees[n] = []known{w.leaf(x)}
		}
		for _, g := range edges(f, n) {
			for _, kid := range g.Kids {
				grow(kid)
			}
			for kids := range product(kidsOf(g, w.trees)) {
				w.trees[n] = append(w.trees[n], w.grown(g.Rule, kids))
			}
		}
		w.up = append(w.up, n)
	}
	for n := range f.Len() {
		grow(n)
	}
	return w, true
}

// total is the cost of a tree's reading, and the steps of its words, with those from the beginning and to the end.
func (w *world) total(k known) int {
	if len(k.words) == 0 {
		return k.cost + w.step("", "")
	}
	return w.step("", k.words[0]) + k.inner + w.step(k.words[len(k.words)-1], "")
}

// place puts trees as they are placed.
func (w *world) place(l []known) {
	slices.SortFunc(l, func(a, b known) int {
		return cmp.Or(cmp.Compare(w.total(a), w.total(b)), grammar.Compare(a.tree, b.tree))
	})
}

// ofGoals returns what is known of the goals.
func ofGoals[T any](w *world, rows [][]T) []T {
	var out []T
	for _, n := range w.f.Goals() {
		out = append(out, rows[n]...)
	}
	return out
}

// states returns the states of all items.
func (w *world) states() []api.State {
	var out []api.State
	for n, l := range w.trees {
		costs := map[[2]string]int{}
		for _, k := range l {
			if cost, ok := costs[k.ends()]; !ok || k.inner < cost {
				costs[k.ends()] = k.inner
			}
		}
		for ends, cost := range costs {
			out = append(out, api.State{Item: n, First: ends[0], Last: ends[1], Cost: cost})
		}
	}
	inOrder(out)
	return out
}

func inOrder(l []api.State) {
	slices.SortFunc(l, func(a, b api.State) int {
		return cmp.Or(cmp.Compare(a.Item, b.Item), cmp.Compare(a.First, b.First), cmp.Compare(a.Last, b.Last))
	})
}

// searched returns the trees that goals keep if each item keeps no more than limit states.
func (w *world) searched(limit int) []known {
	kept := make([][]known, len(w.trees))
	for _, n := range w.up {
		if x, ok := lexical(w.f, n); ok {
			kept[n] = []known{w.leaf(x)}
			continue
		}
		var all []known
		for _, g := range edges(w.f, n) {
			for kids := range product(kidsOf(g, kept)) {
				all = append(all, w.grown(g.Rule, kids))
			}
		}
		slices.SortFunc(all, func(a, b known) int {
			return cmp.Or(cmp.Compare(a.inner, b.inner), grammar.Compare(a.tree, b.tree))
		})
		seen := map[[2]string]bool{}
		all = slices.DeleteFunc(all, func(k known) bool {
			had := seen[k.ends()]
			seen[k.ends()] = true
			return had
		})
		slices.SortStableFunc(all, func(a, b known) int {
			return cmp.Or(cmp.Compare(a.inner, b.inner), strings.Compare(a.ends()[0], b.ends()[0]), strings.Compare(a.ends()[1], b.ends()[1]))
		})
		kept[n] = all[:min(limit, len(all))]
	}
	return ofGoals(w, kept)
}

// joined returns what comes of listed states of kids by a rule, as the chapter says.
func (w *world) joined(rule int, kids []api.State) api.State {
	r := w.s.Rules[rule]
	out := api.State{Cost: r.Cost}
	for _, x := range r.Target {
		next := api.State{First: x.Word, Last: x.Word}
		if x.Part > 0 {
			next = kids[x.Part-1]
		}
		out.Cost += next.Cost
		switch {
		case next.First == "":
		case out.First == "":
			out.First, out.Last = next.First, next.Last
		default:
			out.Cost += w.step(out.Last, next.First)
			out.Last = next.Last
		}
	}
	return out
}

// wanted returns what a proof has to list for an item, if it lists some states of the others.
func (w *world) wanted(n int, rows [][]api.State) []api.State {
	var out []api.State
	if x, ok := lexical(w.f, n); ok {
		form := w.leaf(x).words[0]
		out = append(out, api.State{First: form, Last: form})
	}
	for _, g := range edges(w.f, n) {
		for kids := range product(kidsOf(g, rows)) {
			out = append(out, w.joined(g.Rule, kids))
		}
	}
	for i := range out {
		out[i].Item = n
	}
	return out
}

func isWord(s string) bool { return morph.Word(s) }

// bound returns the bound of a proof, as the chapter says; false if it is not closed.
func (w *world) bound(proof []api.State) (bound int, found, ok bool) {
	rows := make([][]api.State, len(w.trees))
	for i, x := range proof {
		if x.Item < 0 || x.Item >= len(rows) || x.Cost < 0 || x.Cost > math.MaxInt32 || !(isWord(x.First) && isWord(x.Last) || x.First+x.Last == "") {
			return 0, false, false
		}
		if i > 0 {
			if y := proof[i-1]; cmp.Or(cmp.Compare(y.Item, x.Item), cmp.Compare(y.First, x.First), cmp.Compare(y.Last, x.Last)) >= 0 {
				return 0, false, false
			}
		}
		rows[x.Item] = append(rows[x.Item], x)
	}
	for n := range rows {
		for _, x := range w.wanted(n, rows) {
			if !slices.ContainsFunc(rows[n], func(y api.State) bool { return y.First == x.First && y.Last == x.Last && y.Cost <= x.Cost }) {
				return 0, false, false
			}
		}
	}
	for _, x := range ofGoals(w, rows) {
		cost := x.Cost + w.step("", x.First)
		if x.First != "" {
			cost += w.step(x.Last, "")
		}
		if !found || cost < bound {
			bound, found = cost, true
		}
	}
	return bound, found, true
}

// anyClosed makes a closed proof, with states that need not be there, and costs that are less than they need be.
func (w *world) anyClosed(r *rand.Rand) []api.State {
	rows := make([][]api.State, len(w.trees))
	less := pick(r, 0, 0, 1, 3)
	for _, n := range w.up {
		costs := map[[2]string]int{}
		more := some(r, pick(r, 0, 0, 0, 1), func() api.State {
			first := pick(r, "", "u", "x", "~")
			if first == "" {
				return api.State{Cost: r.IntN(9)}
			}
			return api.State{First: first, Last: pick(r, "x", "y", "z"), Cost: pick(r, r.IntN(9), math.MaxInt32)}
		})
		for _, x := range append(w.wanted(n, rows), more...) {
			ends := [2]string{x.First, x.Last}
			x.Cost = min(x.Cost, math.MaxInt32)
			if cost, ok := costs[ends]; !ok || x.Cost < cost {
				costs[ends] = x.Cost
			}
		}
		for ends, cost := range costs {
			rows[n] = append(rows[n], api.State{Item: n, First: ends[0], Last: ends[1], Cost: max(cost-r.IntN(less+1), 0)})
		}
		inOrder(rows[n])
		if len(rows[n]) > 12 { // choices of them would be too many
			return nil
		}
	}
	return slices.Concat(rows...)
}

// spoil makes some change to a proof.
func spoil(r *rand.Rand, proof []api.State) []api.State {
	out := slices.Clone(proof)
	if len(out) == 0 {
		return append(out, api.State{Item: r.IntN(3) - 1, First: "x", Last: "x"})
	}
	i := r.IntN(len(out))
	switch x := &out[i]; r.IntN(9) {
	case 0:
		return slices.Delete(out, i, i+1)
	case 1:
		x.Cost++
	case 2:
		x.Cost--
	case 3:
		x.First, x.Last = x.Last, x.First
	case 4:
		x.First = pick(r, "", "x", "a b", "zz", strings.Repeat("z", 25))
	case 5:
		x.Last = pick(r, "", "x", "a b", "zz")
	case 6:
		x.Cost = pick(r, -1, 0, math.MinInt, math.MaxInt32, math.MaxInt32+1, math.MaxInt)
	case 7:
		x.Item = pick(r, -1, 0, x.Item+1, len(proof), math.MinInt, math.MaxInt)
	case 8:
		return slices.Insert(out, i, pick(r, out...))
	}
	return out
}

// seen counts what was met.
type seen struct{ worlds, goals, silent, ties, several, less, closed, open int }

// holds holds what package decode says of a world against the world.
func (w *world) holds(t *testing.T, r *rand.Rand, c *seen) {
	t.Helper()
	c.worlds++
	all := ofGoals(w, w.trees)
	w.place(all)
	k := pick(r, 1, 2, 5, 64)
	got, e := decode.Best(w.s, w.m, w.words, k)
	if e != api.OK || len(got) != min(k, len(all)) {
		t.Fatalf("%v: %q: %d trees of %d, %d are asked for, error %d", w.s.Rules, w.words, len(got), len(all), k, e)
	}
	for i, x := range got {
		if !sameTree(x, all[i].tree) {
			t.Fatalf("%v: %v: %q: place %d: %s, want %s", w.s.Rules, w.m, w.words, i, written(x), written(all[i].tree))
		}
		if n, e := decode.Total(w.s, w.m, x); n != w.total(all[i]) || e != api.OK {
			t.Fatalf("%v: %v: %s: total %d, error %d, want %d", w.s.Rules, w.m, written(x), n, e, w.total(all[i]))
		}
		if len(all[i].words) == 0 {
			c.silent++
		}
		if i > 0 && w.total(all[i-1]) == w.total(all[i]) {
			c.ties++
		}
	}
	w.proves(t, r, all, c)
	w.searches(t, r, all, c)
}

// proves holds proofs against a world.
func (w *world) proves(t *testing.T, r *rand.Rand, all []known, c *seen) {
	t.Helper()
	proof, e := decode.Prove(w.s, w.m, w.words)
	if want := w.states(); e != api.OK || !slices.Equal(proof, want) {
		t.Fatalf("%v: %v: %q: %v, error %d, want %v", w.s.Rules, w.m, w.words, proof, e, want)
	}
	bound, found, e := decode.Bound(w.s, w.m, w.words, proof)
	if found != (len(all) > 0) || e != api.OK || found && bound != w.total(all[0]) {
		t.Fatalf("%v: %v: %q: bound %d, %v, error %d", w.s.Rules, w.m, w.words, bound, found, e)
	}
	if found {
		c.goals++
	}
	if slices.ContainsFunc(w.trees, func(l []known) bool { return len(l) > 5 }) {
		c.several++
	}
	closed := w.anyClosed(r)
	for i, one := range [][]api.State{closed, spoil(r, closed), spoil(r, proof), spoil(r, spoil(r, proof))} {
		want, has, ok := w.bound(one)
		bound, found, e := decode.Bound(w.s, w.m, w.words, one)
		if !ok && (e != api.ErrState || bound != 0 || found) || ok && (e != api.OK || bound != want || found != has) {
			t.Fatalf("%v: %v: %q: %v: bound %d, %v, error %d, want %d, %v, %v", w.s.Rules, w.m, w.words, one, bound, found, e, want, has, ok)
		}
		if i == 0 && closed != nil && !ok {
			t.Fatalf("%v: %v is not closed", w.s.Rules, closed)
		}
		if ok && found {
			c.closed++
			if bound > w.total(all[0]) {
				t.Fatalf("%v: %v: %q: %v: a bound of %d", w.s.Rules, w.m, w.words, one, bound)
			}
		}
		if !ok {
			c.open++
		}
	}
}

// searches holds Search against a world.
func (w *world) searches(t *testing.T, r *rand.Rand, all []known, c *seen) {
	t.Helper()
	limit := pick(r, 1, 1, 2, 3, 64)
	kept := w.searched(limit)
	x, total, gap, e := decode.Search(w.s, w.m, w.words, limit)
	if len(kept) == 0 {
		if e != api.ErrNone || total != 0 || gap != 0 || !sameTree(x, api.Tree{}) {
			t.Fatalf("%v: %q: %s, %d, %d, error %d", w.s.Rules, w.words, written(x), total, gap, e)
		}
		return
	}
	w.place(kept)
	least := math.MaxInt
	for _, k := range all {
		least = min(least, k.cost)
	}
	if e != api.OK || !sameTree(x, kept[0].tree) || total != w.total(kept[0]) || gap != total-least {
		t.Fatalf("%v: %v: %q: limit %d: %s, %d, %d, error %d, want %s, %d", w.s.Rules, w.m, w.words, limit, written(x), total, gap, e, written(kept[0].tree), w.total(kept[0]))
	}
	if total < w.total(all[0]) || total-gap > w.total(all[0]) {
		t.Fatalf("%v: %v: %q: limit %d: total %d, gap %d, but %d", w.s.Rules, w.m, w.words, limit, total, gap, w.total(all[0]))
	}
	if total > w.total(all[0]) {
		c.less++
	}
}

// P5.3 to P5.7, P0.3, P0.4: what is said of a sentence is what all of its trees and states say.
func TestWorlds(t *testing.T) {
	r := dice()
	var c seen
	for range 4 * rounds {
		if w, ok := worldOf(t, anySystem(r), anyModel(r), anyWords(r, 5)); ok {
			w.holds(t, r, &c)
		}
	}
	for range 8 * rounds {
		s, words := whole(t, r, 6)
		if w, ok := worldOf(t, s, anyModel(r), words); ok {
			w.holds(t, r, &c)
		}
	}
	if least := min(c.worlds, c.goals, c.silent, c.ties, c.several, c.less, c.closed, c.open); least < rounds/3 {
		t.Errorf("too little was seen: %+v", c)
	}
}

// merged returns the first k trees that a forest ranks of all goals together.
func merged(t *testing.T, s api.System, f *chart.Forest, k int) []api.Tree {
	t.Helper()
	var all []known
	for _, n := range f.Goals() {
		l, e := f.Best(n, k)
		if e != api.OK {
			t.Fatal(e)
		}
		for _, x := range l {
			got, e := grammar.Derive(s, x)
			if e != api.OK {
				t.Fatal(e)
			}
			all = append(all, known{tree: x, words: got.Target, cost: got.Cost})
		}
	}
	slices.SortFunc(all, func(a, b known) int {
		return cmp.Or(cmp.Compare(a.cost, b.cost), grammar.Compare(a.tree, b.tree))
	})
	var out []api.Tree
	for _, x := range all[:min(k, len(all))] {
		out = append(out, x.tree)
	}
	return out
}

// free makes all costs of a model 0.
func free(m api.Model) api.Model {
	m.Unknown, m.Words, m.Pairs = 0, slices.Clone(m.Words), slices.Clone(m.Pairs)
	for i := range m.Words {
		m.Words[i].Cost, m.Words[i].Back = 0, 0
	}
	for i := range m.Pairs {
		m.Pairs[i].Cost = 0
	}
	return m
}

// P5.7: what follows, of sentences that have more trees than can be kept.
func TestWhatFollows(t *testing.T) {
	r := dice()
	many := 0
	for range 2 * rounds {
		s, words := whole(t, r, 12)
		m := anyModel(r)
		f, e := chart.Parse(s, words)
		if e != api.OK {
			t.Fatal(e)
		}
		l, e := decode.Best(s, m, words, api.MaxBest)
		if e != api.OK || len(l) == 0 {
			t.Fatalf("%v: %q: no tree, error %d", s, words, e)
		}
		if len(l) == api.MaxBest {
			many++
		}
		var totals []int
		for i, x := range l {
			got, e := grammar.Derive(s, x)
			if e != api.OK || got.Cat != s.Start || !slices.Equal(got.Source, words) {
				t.Fatalf("%v: %q: %s: %v, error %d", s, words, written(x), got, e)
			}
			score, _ := decode.Score(m, got.Target)
			totals = append(totals, got.Cost+score)
			if n := total(t, s, m, x); n != totals[i] {
				t.Fatalf("%v: %s: total %d, want %d", m, written(x), n, totals[i])
			}
			if i > 0 && (totals[i] < totals[i-1] || totals[i] == totals[i-1] && grammar.Compare(l[i-1], x) >= 0) {
				t.Fatalf("%v: %v: %q: %q, %v", s, m, words, writtenAll(l[i-1:i+1]), totals)
			}
		}
		last := len(l) - 1
		for _, x := range merged(t, s, f, api.MaxBest) { // none is passed over
			n := total(t, s, m, x)
			wanted := len(l) < api.MaxBest || n < totals[last] || n == totals[last] && grammar.Compare(x, l[last]) <= 0
			if wanted && !slices.ContainsFunc(l, func(y api.Tree) bool { return sameTree(x, y) }) {
				t.Fatalf("%v: %v: %q: %s, %d", s, m, words, written(x), n)
			}
		}
		k := 1 + r.IntN(api.MaxBest)
		if some, e := decode.Best(s, m, words, k); e != api.OK || !slices.EqualFunc(some, l[:min(k, len(l))], sameTree) {
			t.Fatalf("%v: %v: %q: the first %d, error %d", s, m, words, k, e)
		}
		if got, e := decode.Best(s, free(m), words, k); e != api.OK || !slices.EqualFunc(got, merged(t, s, f, k), sameTree) {
			t.Fatalf("%v: %q: the first %d without costs, error %d", s, words, k, e)
		}
		follows(t, s, m, words, l[0], totals[0])
	}
	if many < rounds/10 {
		t.Errorf("just %d sentences with many trees", many)
	}
}

// follows holds proofs and searches against the best tree of a sentence.
func follows(t *testing.T, s api.System, m api.Model, words []string, x api.Tree, total int) {
	t.Helper()
	proof, e := decode.Prove(s, m, words)
	if e != api.OK {
		t.Fatal(e)
	}
	if bound, found, e := decode.Bound(s, m, words, proof); bound != total || !found || e != api.OK {
		t.Fatalf("%v: %v: %q: bound %d, error %d, want %d", s, m, words, bound, e, total)
	}
	states, fullest := map[int]int{}, 0
	for _, y := range proof {
		states[y.Item]++
		fullest = max(fullest, states[y.Item])
	}
	for _, limit := range []int{1, fullest - 1, fullest, api.MaxBest} {
		if limit < 1 || limit > api.MaxBest {
			continue
		}
		y, found, gap, e := decode.Search(s, m, words, limit)
		if e != api.OK || found < total || found-gap > total || limit >= fullest && !sameTree(x, y) {
			t.Fatalf("%v: %v: %q: limit %d: %s, %d, %d, error %d, want %s, %d", s, m, words, limit, written(y), found, gap, e, written(x), total)
		}
	}
}

// scribble changes all of the memory of a tree, and looks whether some of it was met before.
func scribble(t *testing.T, x *api.Tree, met map[any]bool) {
	t.Helper()
	for i := range x.From.Firsts {
		x.From.Firsts[i] = api.First{Entry: 77}
	}
	for i := range x.Kids {
		scribble(t, &x.Kids[i], met)
		x.Kids[i] = api.Tree{Rule: 77}
	}
	if len(x.Kids) > 0 && met[&x.Kids[0]] || len(x.From.Firsts) > 0 && met[&x.From.Firsts[0]] {
		t.Fatal("memory in common")
	}
	if len(x.Kids) > 0 {
		met[&x.Kids[0]] = true
	}
	if len(x.From.Firsts) > 0 {
		met[&x.From.Firsts[0]] = true
	}
}

// R4, R10: results are new memory, arguments stay as they are, and equal calls have equal results.
func TestMemory(t *testing.T) {
	r := dice()
	firsts := 0
	for range rounds {
		s, words := whole(t, r, 6)
		m := anyModel(r)
		before := fmt.Sprint(s, m, words)
		l, _ := decode.Best(s, m, words, 64)
		again, _ := decode.Best(s, m, words, 64)
		texts, met := writtenAll(l), map[any]bool{}
		firsts += strings.Count(texts[0], ".")
		for i := range l {
			scribble(t, &l[i], met)
			if got := writtenAll(l[i+1:]); !slices.Equal(got, texts[i+1:]) {
				t.Fatalf("%q, but %q", got, texts[i+1:])
			}
		}
		if got := writtenAll(again); !slices.Equal(got, texts) {
			t.Fatalf("%q, but %q", got, texts)
		}
		proof, _ := decode.Prove(s, m, words)
		kept := slices.Clone(proof)
		bound, _, _ := decode.Bound(s, m, words, proof)
		same, _, _ := decode.Bound(s, m, words, proof)
		if !slices.Equal(kept, proof) || bound != same {
			t.Fatal(proof, bound, same)
		}
		x, _, _, _ := decode.Search(s, m, words, 2)
		y, _, _, _ := decode.Search(s, m, words, 2)
		text := written(x)
		scribble(t, &x, met)
		if written(y) != text {
			t.Fatal(written(y), text)
		}
		if after := fmt.Sprint(s, m, words); before != after {
			t.Fatalf("%s, but %s", after, before)
		}
	}
	if firsts == 0 {
		t.Error("no compounds were seen")
	}
}

// P0.1: any arguments are answered, with an error or a result.
func TestAnyArguments(t *testing.T) {
	r := dice()
	number := func() int { return pick(r, math.MinInt, -2, -1, 0, 0, 1, 1, 2, 64, 65, 1<<31, math.MaxInt) }
	text := func() string { return pick(r, "", "x", "x", "y", "u", "~", " ", "\xff", strings.Repeat("x", 25)) }
	var anyTree func(depth int) api.Tree
	anyTree = func(depth int) api.Tree {
		t := api.Tree{Rule: pick(r, number(), 0, 1, -1)}
		if r.IntN(4) == 0 {
			t.Entry, t.Slot, t.From.Entry, t.From.Slot = number(), number(), number(), number()
		}
		if depth > 0 {
			t.Kids = some(r, 2, func() api.Tree { return anyTree(depth - 1) })
		}
		return t
	}
	codes := map[api.Errno]int{}
	for range 10 * rounds {
		s, m := anySystem(r), anyModel(r)
		if r.IntN(8) == 0 {
			s.Rules = append(s.Rules, api.Rule{Left: "A", Cost: number(), Source: []api.Item{{Part: number()}}})
		}
		if r.IntN(4) == 0 {
			m.Words = append(m.Words, api.Uni{Word: text(), Cost: number(), Back: number()})
		}
		if r.IntN(4) == 0 {
			m.Pairs = append(m.Pairs, api.Bi{First: text(), Second: text(), Cost: number()})
		}
		words := anyWords(r, 4)
		if r.IntN(4) == 0 {
			words = some(r, 18, text)
		}
		check := func(name string, e api.Errno, zero bool) {
			codes[e]++
			if e != api.OK && !zero {
				t.Fatalf("%s: %v: %v: %q: error %d, but a result", name, s, m, words, e)
			}
		}
		check("Check", decode.Check(m), true)
		n, e := decode.Step(m, text(), text())
		check("Step", e, n == 0)
		n, e = decode.Score(m, words)
		check("Score", e, n == 0)
		n, e = decode.Total(s, m, anyTree(3))
		check("Total", e, n == 0)
		l, e := decode.Best(s, m, words, number())
		check("Best", e, len(l) == 0)
		p, e := decode.Prove(s, m, words)
		check("Prove", e, len(p) == 0)
		listed := some(r, 5, func() api.State {
			return api.State{Item: number(), First: text(), Last: text(), Cost: number()}
		})
		n, found, e := decode.Bound(s, m, words, append(p, listed...))
		check("Bound", e, n == 0 && !found)
		x, n, gap, e := decode.Search(s, m, words, number())
		check("Search", e, n == 0 && gap == 0 && sameTree(x, api.Tree{}))
	}
	for _, e := range []api.Errno{api.OK, api.ErrArg, api.ErrLimit, api.ErrNone, api.ErrTwice, api.ErrState} {
		if codes[e] == 0 {
			t.Errorf("error %d was not seen: %v", e, codes)
		}
	}
}

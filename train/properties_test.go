package train_test

import (
	"cmp"
	"fmt"
	"iter"
	"math"
	"math/rand/v2"
	"slices"
	"strings"
	"testing"

	"truchman/api"
	"truchman/chart"
	"truchman/grammar"
	"truchman/morph"
	"truchman/train"
)

// Tests of P6.1 to P6.7, of P0.1, P0.3 and P0.5, with many values that a seed makes. What package train says is held against all trees of a forest, made one by one.

// Lexicons of the source and of the target language. A target word may have no form, or several that are equal.
var (
	sourceTexts = []string{
		"vowels a\ntrait f p q\nclass n\nslot 0 - - f=p\nslot 0 - - f=q\nentry x n\nentry y n\n",
		"vowels a\ntrait f p q\nclass n\nslot 0 - -\nentry x n\nentry y n\nlink n -\n",
	}
	targetTexts = []string{
		"vowels a\ntrait f p q\nclass n\nslot 0 - - f=p\nslot 0 - a f=q\nslot 0 - b\nentry x n\nentry y n\n",
		"vowels a\ntrait f p q\nclass n\nslot 0 - -\nslot 0 - -\nentry x n\nform 1 u\nentry y n\nform 0 -\n",
		"vowels a\ntrait f p q\nclass n\nslot 0 - - f=p\nclass m\nslot 0 - - f=q\nentry x n\nentry x m\nentry y n\n",
	}
	cats = []string{"A", "B", "S"}
)

func anyPart(r *rand.Rand) api.Part {
	if r.IntN(3) > 0 {
		return api.Part{Cat: pick(r, cats...)}
	}
	return api.Part{From: pick(r, "x", "y"), To: pick(r, "x", "y")}
}

// anyItems puts parts in some order, with some words between them.
func anyItems(r *rand.Rand, parts, words int) []api.Item {
	var out []api.Item
	for _, i := range r.Perm(parts) {
		out = append(out, api.Item{Part: i + 1})
	}
	for range r.IntN(words + 1) {
		out = slices.Insert(out, r.IntN(len(out)+1), api.Item{Word: pick(r, "x", "y", "u")})
	}
	return out
}

func anyRule(r *rand.Rand) api.Rule {
	out := api.Rule{Left: pick(r, cats...), Parts: some(r, pick(r, 0, 2, 2, 3, 4), func() api.Part { return anyPart(r) }), Cost: r.IntN(4)}
	parts := len(out.Parts)
	out.Source, out.Target = anyItems(r, parts, 1), anyItems(r, parts, 2)
	path := func() api.Path {
		return api.Path{Node: r.IntN(parts + 1), Target: r.IntN(2) == 0, Name: "f"}
	}
	if r.IntN(3) == 0 {
		out.Equations = some(r, 2, func() api.Equation { return api.Equation{A: path(), B: path()} })
	}
	return out
}

// anySystem makes a valid system.
func anySystem(r *rand.Rand) api.System {
	s := api.System{Source: lexicon(pick(r, sourceTexts...)), Target: lexicon(pick(r, targetTexts...)), Start: pick(r, cats...)}
	for range 5 + r.IntN(16) {
		more := s
		more.Rules = append(slices.Clone(s.Rules), anyRule(r))
		if r.IntN(4) == 0 && len(s.Rules) > 0 { // one that derives what another one does
			twin := pick(r, s.Rules...)
			twin.Cost = r.IntN(4)
			more.Rules[len(s.Rules)] = twin
		}
		if grammar.Check(more) == api.OK {
			s = more
		}
	}
	return s
}

func anyWords(r *rand.Rand, most int) []string {
	return some(r, most, func() string { return pick(r, "x", "x", "y", "u", "xy") })
}

// known is a tree with its target words and its cost.
type known struct {
	tree  api.Tree
	words []string
	cost  int
}

// product tells all lists that have an element of each of some lists.
func product[T any](lists [][]T) iter.Seq[[]T] {
	return func(yield func([]T) bool) {
		var goOn func(chosen []T) bool
		goOn = func(chosen []T) bool {
			if len(chosen) == len(lists) {
				return yield(slices.Clone(chosen))
			}
			for _, x := range lists[len(chosen)] {
				if !goOn(append(chosen, x)) {
					return false
				}
			}
			return true
		}
		goOn(nil)
	}
}

// tooMany is how many trees are too many to be made.
const tooMany = 3000

// treesOf returns all trees of the start category that derive a sentence; false if there are too many.
func treesOf(t *testing.T, s api.System, source []string) ([]known, bool) {
	t.Helper()
	f, e := chart.Parse(s, source)
	if e != api.OK {
		t.Fatalf("%v: %q: error %d", s, source, e)
	}
	for _, n := range f.Goals() {
		if f.Count(n) > tooMany {
			return nil, false
		}
	}
	rows := map[int][]known{}
	var out []known
	for _, n := range f.Goals() {
		out = append(out, grown(s, f, n, rows)...)
	}
	return out, true
}

// grown returns all trees of an item.
func grown(s api.System, f *chart.Forest, n int, rows map[int][]known) []known {
	if l, ok := rows[n]; ok {
		return l
	}
	x, _ := f.Item(n)
	if x.Cat == "" {
		form, _ := morph.Form(s.Target, x.Lex.Entry, x.Lex.Slot)
		rows[n] = []known{{x.Lex, []string{form}, 0}}
		return rows[n]
	}
	var out []known
	edges, _ := f.Edges(n)
	for _, g := range edges {
		var lists [][]known
		for _, kid := range g.Kids {
			lists = append(lists, grown(s, f, kid, rows))
		}
		for kids := range product(lists) {
			out = append(out, joined(s.Rules[g.Rule], g.Rule, kids))
		}
	}
	rows[n] = out
	return out
}

// joined returns the tree of a rule that has some kids.
func joined(r api.Rule, n int, kids []known) known {
	out := known{tree: api.Tree{Rule: n}, cost: r.Cost}
	for _, kid := range kids {
		out.tree.Kids = append(out.tree.Kids, kid.tree)
		out.cost += kid.cost
	}
	for _, x := range r.Target {
		if x.Part == 0 {
			out.words = append(out.words, x.Word)
		} else {
			out.words = append(out.words, kids[x.Part-1].words...)
		}
	}
	return out
}

// that returns those of some trees that have these target words, as they are ranked.
func that(l []known, target []string) []known {
	var out []known
	for _, x := range l {
		if slices.Equal(x.words, target) {
			out = append(out, x)
		}
	}
	slices.SortFunc(out, func(a, b known) int { return cmp.Or(cmp.Compare(a.cost, b.cost), grammar.Compare(a.tree, b.tree)) })
	return out
}

// usesOf adds the uses of rules in a tree to some numbers.
func usesOf[T uint64 | int](x api.Tree, uses []T) {
	if x.Rule >= 0 {
		uses[x.Rule]++
	}
	for _, kid := range x.Kids {
		usesOf(kid, uses)
	}
}

// costOf returns the cost of a tree by the costs of rules.
func costOf(x api.Tree, costs []int) int {
	uses := make([]int, len(costs))
	usesOf(x, uses)
	total := 0
	for n, cost := range costs {
		total += uses[n] * cost
	}
	return total
}

// whole makes a system and a sentence with all trees by which that derives it.
func whole(t *testing.T, r *rand.Rand, most int) (api.System, []string, []known) {
	t.Helper()
	for {
		s, words := anySystem(r), anyWords(r, most)
		f, e := chart.Parse(s, words)
		if e != api.OK {
			t.Fatalf("%v: %q: error %d", s, words, e)
		}
		if f.Len() == 0 {
			continue
		}
		x, _ := f.Item(f.Len() - 1 - r.IntN(min(3, f.Len())))
		if x.Cat == "" {
			continue
		}
		s.Start = x.Cat
		words = words[x.From:x.To]
		if l, ok := treesOf(t, s, words); ok && len(l) > 0 {
			return s, words, l
		}
	}
}

// targetOf makes a target of some trees: mostly one that a tree has.
func targetOf(r *rand.Rand, l []known) []string {
	if len(l) == 0 {
		return anyWords(r, 3)
	}
	words := slices.Clone(pick(r, l...).words)
	if len(words) > 0 && r.IntN(8) == 0 {
		at := r.IntN(len(words))
		if r.IntN(2) == 0 {
			return slices.Delete(words, at, at+1)
		}
		words[at] = pick(r, "x", "y", "u")
	}
	if r.IntN(16) == 0 {
		words = append(words, "x")
	}
	return words
}

// seen is what tests have met.
type seen struct{ couples, none, silent, several, ties int }

// holds holds what is said of a couple against all trees that fit it.
func holds(t *testing.T, r *rand.Rand, s api.System, c api.Couple, l []known, seen *seen) {
	t.Helper()
	want := that(l, c.Target)
	uses := make([]uint64, len(s.Rules))
	var trees []api.Tree
	for i, x := range want {
		trees = append(trees, x.tree)
		usesOf(x.tree, uses)
		if i > 0 && x.cost == want[i-1].cost {
			seen.ties++
		}
	}
	for _, k := range []int{1, 1 + r.IntN(64), 64} {
		if got := fits(t, s, c, k); !slices.EqualFunc(got, trees[:min(k, len(trees))], sameTree) {
			t.Fatalf("%v: %v: the first %d: %q, want %q", s, c, k, writtenAll(got), writtenAll(trees))
		}
	}
	if got, want := counted(s, c), fmt.Sprint(len(trees), uses, 0); got != want {
		t.Fatalf("%v: %v: %s, want %s", s, c, got, want)
	}
	seen.couples++
	switch {
	case len(want) == 0:
		seen.none++
	case len(want) > 1:
		seen.several++
	}
	if len(want) > 0 && len(c.Target) == 0 {
		seen.silent++
	}
}

// P6.1, P6.7, P0.3: what is said of couples is what all of their trees say.
func TestWorlds(t *testing.T) {
	r := dice()
	var c seen
	for range 8 * rounds {
		s, source, l := whole(t, r, 6)
		target := targetOf(r, l)
		holds(t, r, s, api.Couple{Source: source, Target: target}, l, &c)
	}
	for range 2 * rounds {
		s, source := anySystem(r), anyWords(r, 5)
		if l, ok := treesOf(t, s, source); ok {
			target := targetOf(r, l)
			holds(t, r, s, api.Couple{Source: source, Target: target}, l, &c)
		}
	}
	if least := min(c.couples, c.none, c.silent, c.several, c.ties); least < rounds/3 {
		t.Errorf("too little was seen: %+v", c)
	}
}

// corpus is couples, each with all trees of its Source.
type corpus struct {
	s       api.System
	couples []api.Couple
	trees   [][]known
}

// manyWays makes a system by which a couple has many trees of unlike costs: rows of short words, each of which several rules derive.
func manyWays(r *rand.Rand) api.System {
	words := func(l []string) []api.Item {
		var out []api.Item
		for _, x := range l {
			out = append(out, api.Item{Word: x})
		}
		return out
	}
	s := api.System{Source: lexicon(plainText), Target: lexicon(plainText), Start: "S"}
	both := []api.Item{{Part: 1}, {Part: 2}}
	for _, cat := range cats[:2] {
		s.Rules = append(s.Rules,
			api.Rule{Left: "S", Parts: []api.Part{{Cat: cat}, {Cat: "S"}}, Source: both, Target: both},
			api.Rule{Left: "S", Parts: []api.Part{{Cat: cat}}, Source: both[:1], Target: both[:1]},
		)
		for range 2 + r.IntN(6) {
			source := append(some(r, 1, func() string { return pick(r, "x", "y") }), pick(r, "x", "y"))
			target := some(r, 2, func() string { return pick(r, "x", "u") })
			s.Rules = append(s.Rules, api.Rule{Left: cat, Source: words(source), Target: words(target)})
		}
	}
	for i := range s.Rules {
		s.Rules[i].Cost = r.IntN(20)
	}
	return s
}

// anyCorpus makes couples that one system mostly derives.
func anyCorpus(t *testing.T, r *rand.Rand) corpus {
	t.Helper()
	s, source, l := whole(t, r, 6)
	most := 8
	if r.IntN(2) == 0 {
		s, source, l, most = manyWays(r), nil, nil, 16
	}
	out := corpus{s: s}
	for range r.IntN(most) {
		if r.IntN(3) == 0 || len(l) == 0 {
			words := anyWords(r, 6)
			if more, ok := treesOf(t, s, words); ok {
				source, l = words, more
			}
		}
		out.couples = append(out.couples, api.Couple{Source: source, Target: targetOf(r, l)})
		out.trees = append(out.trees, l)
	}
	return out
}

// unused returns the rules that no tree uses that fits a couple.
func (c corpus) unused() []int {
	uses := make([]int, len(c.s.Rules))
	for i, l := range c.trees {
		for _, x := range that(l, c.couples[i].Target) {
			usesOf(x.tree, uses)
		}
	}
	var out []int
	for rule, n := range uses {
		if n == 0 {
			out = append(out, rule)
		}
	}
	return out
}

// estimated returns the uses of rules in the first trees that fit, by some costs, and the sum of the costs of these trees.
func (c corpus) estimated(costs []int) (uses []int, total int) {
	uses = make([]int, len(costs))
	for i, l := range c.trees {
		l = slices.Clone(l)
		for j := range l {
			l[j].cost = costOf(l[j].tree, costs)
		}
		if l = that(l, c.couples[i].Target); len(l) > 0 {
			usesOf(l[0].tree, uses)
			total += l[0].cost
		}
	}
	return uses, total
}

// costed returns the costs of counts, as the chapter says.
func (c corpus) costed(counts []int) []int {
	var out []int
	for n, r := range c.s.Rules {
		all := 0
		for m, q := range c.s.Rules {
			if q.Left == r.Left {
				all += counts[m] + 1
			}
		}
		out = append(out, leastBits(counts[n]+1, all))
	}
	return out
}

// P6.2, P6.4, P6.5, P6.7, P0.5: what is said of several couples is what their trees say.
func TestCorpora(t *testing.T) {
	r := dice()
	met := map[string]int{}
	for range 6 * rounds {
		c := anyCorpus(t, r)
		if got, e := train.Unused(c.s, c.couples); !slices.Equal(got, c.unused()) || e != api.OK {
			t.Fatalf("%v: %v: %v, error %d, want %v", c.s, c.couples, got, e, c.unused())
		}
		uses, before := c.estimated(costs(c.s))
		next := c.costed(uses)
		_, after := c.estimated(next)
		better, m, n, e := train.Estimate(c.s, c.couples)
		if m != before || n != after || e != api.OK || !sameSystem(better, priced(c.s, next)) {
			t.Fatalf("%v: %v: %v, %d, %d, error %d, want %v, %d, %d", c.s, c.couples, costs(better), m, n, e, next, before, after)
		}
		c.trains(t, pick(r, 0, 1, 2, 3, 100), met)
	}
	for _, x := range []string{"0 rounds", "no round", "ended early", "1 totals", "2 totals", "3 totals", "rounds over"} {
		if met[x] < 10 {
			t.Errorf("too little was seen: %v", met)
		}
	}
}

// trains holds Train against estimating again and again.
func (c corpus) trains(t *testing.T, n int, met map[string]int) {
	t.Helper()
	best := costs(c.s)
	uses, total := c.estimated(best)
	totals := []int{total}
	for len(totals) <= n {
		next := c.costed(uses)
		more, after := c.estimated(next)
		if after >= total {
			met["ended early"]++
			break
		}
		best, uses, total = next, more, after
		totals = append(totals, total)
	}
	switch {
	case n == 0:
		met["0 rounds"]++
	case len(totals) == 1:
		met["no round"]++
	case len(totals) == n+1:
		met["rounds over"]++
	}
	met[fmt.Sprint(len(totals), " totals")]++
	got, l, e := train.Train(c.s, c.couples, n)
	if e != api.OK || !slices.Equal(l, totals) || !sameSystem(got, priced(c.s, best)) {
		t.Fatalf("%v: %v: %d rounds: %v, %v, error %d, want %v, %v", c.s, c.couples, n, costs(got), l, e, best, totals)
	}
}

// P6.1, P6.5, P6.7, P0.5: what follows, of couples that have more trees than can be made.
func TestWhatFollows(t *testing.T) {
	r := dice()
	many, fell := 0, 0
	for range 4 * rounds {
		s, c := anySystem(r), api.Couple{Source: anyWords(r, 12)}
		if r.IntN(3) == 0 {
			s = manyWays(r)
			c.Source = some(r, 16, func() string { return pick(r, "x", "y") })
		}
		f, e := chart.Parse(s, c.Source)
		if e != api.OK || f.Len() == 0 {
			continue
		}
		x, _ := f.Item(f.Len() - 1)
		if x.Cat == "" {
			continue
		}
		s.Start, c.Source = x.Cat, c.Source[x.From:x.To]
		one, _ := f.Best(f.Len()-1, 64)
		reading, e := grammar.Derive(s, pick(r, one...))
		if e != api.OK {
			t.Fatal(e)
		}
		c.Target = reading.Target
		l := fits(t, s, c, 64)
		trees, _, e := train.Count(s, c)
		if e != api.OK || len(l) != int(min(64, trees)) || trees == 0 {
			t.Fatalf("%v: %v: %d trees, of %d, error %d", s, c, len(l), trees, e)
		}
		if trees > 64 {
			many++
		}
		for i, y := range l {
			got, e := grammar.Derive(s, y)
			if e != api.OK || got.Cat != s.Start || !slices.Equal(got.Source, c.Source) || !slices.Equal(got.Target, c.Target) {
				t.Fatalf("%v: %v: %s: %v, error %d", s, c, written(y), got, e)
			}
			if i > 0 {
				last, _ := grammar.Derive(s, l[i-1])
				if last.Cost > got.Cost || last.Cost == got.Cost && grammar.Compare(l[i-1], y) >= 0 {
					t.Fatalf("%v: %v: %s ahead of %s", s, c, written(l[i-1]), written(y))
				}
			}
		}
		best, totals, e := train.Train(s, []api.Couple{c, {}, c}, 100)
		first, _ := grammar.Derive(best, fits(t, best, c, 1)[0])
		if e != api.OK || totals[len(totals)-1] != 2*first.Cost || grammar.Check(best) != api.OK {
			t.Fatalf("%v: %v: %v, but %d twice, error %d", s, c, totals, first.Cost, e)
		}
		for i := range totals[1:] {
			fell++
			if totals[i+1] >= totals[i] {
				t.Fatalf("%v: %v: %v", s, c, totals)
			}
		}
	}
	if min(many, fell) < rounds/10 {
		t.Errorf("just %d couples with many trees, and %d totals that fell", many, fell)
	}
}

// scribble changes all of the memory of a system.
func scribble(s *api.System) {
	for _, l := range []*api.Lexicon{&s.Source, &s.Target} {
		for i := range l.Traits {
			for j := range l.Traits[i].Values {
				l.Traits[i].Values[j] = "?"
			}
			l.Traits[i] = api.Trait{}
		}
		for i := range l.Classes {
			for j := range l.Classes[i].Slots {
				for k := range l.Classes[i].Slots[j].Feats {
					l.Classes[i].Slots[j].Feats[k] = api.Feat{}
				}
				l.Classes[i].Slots[j] = api.Slot{}
			}
			l.Classes[i] = api.Class{}
		}
		for i := range l.Entries {
			for j := range l.Entries[i].Feats {
				l.Entries[i].Feats[j] = api.Feat{}
			}
			for j := range l.Entries[i].Forms {
				l.Entries[i].Forms[j] = api.Irregular{}
			}
			l.Entries[i] = api.Entry{}
		}
		for i := range l.Spells {
			l.Spells[i] = api.Spell{}
		}
		for i := range l.Links {
			for j := range l.Links[i].Feats {
				l.Links[i].Feats[j] = api.Feat{}
			}
			l.Links[i] = api.Link{}
		}
	}
	for i := range s.Rules {
		for j := range s.Rules[i].Parts {
			s.Rules[i].Parts[j] = api.Part{}
		}
		for j := range s.Rules[i].Source {
			s.Rules[i].Source[j] = api.Item{}
		}
		for j := range s.Rules[i].Target {
			s.Rules[i].Target[j] = api.Item{}
		}
		for j := range s.Rules[i].Equations {
			s.Rules[i].Equations[j] = api.Equation{}
		}
		s.Rules[i] = api.Rule{}
	}
}

// fullText is the text of a lexicon that has something of everything.
const fullText = "vowels a\ntrait f p q\nclass n\nslot 0 - - f=p\nclass m\nslot 0 - -\nslot 0 b c\nentry x n f=p\nentry x m f=q\nform 1 u\nentry y n\nspell a+ b+ C #\nlink m d f=q\n"

// R4, R10: systems are new memory, arguments stay as they are, and equal calls have equal results.
func TestSystemMemory(t *testing.T) {
	r := dice()
	for range rounds {
		c := anyCorpus(t, r)
		if r.IntN(2) == 0 {
			c.s.Source, c.s.Target = lexicon(fullText), lexicon(fullText)
		}
		before := fmt.Sprint(c.s, c.couples)
		counts := make([]int, len(c.s.Rules))
		calls := []func() api.System{
			func() api.System { s, _ := train.Costs(c.s, counts); return s },
			func() api.System { s, _, _, _ := train.Estimate(c.s, c.couples); return s },
			func() api.System { s, _, _ := train.Train(c.s, c.couples, 0); return s },
			func() api.System { s, _, _ := train.Train(c.s, c.couples, 3); return s },
		}
		for _, call := range calls {
			one, again := call(), call()
			text := fmt.Sprint(one)
			scribble(&one)
			if text == fmt.Sprint(one) || text != fmt.Sprint(again) || text != fmt.Sprint(call()) {
				t.Fatalf("%s, but %v", text, again)
			}
		}
		if after := fmt.Sprint(c.s, c.couples); before != after {
			t.Fatalf("%s, but %s", after, before)
		}
	}
}

// scribbleTree changes all of the memory of a tree, and looks whether some of it was met before.
func scribbleTree(t *testing.T, x *api.Tree, met map[any]bool) {
	t.Helper()
	for i := range x.From.Firsts {
		x.From.Firsts[i] = api.First{Entry: 77}
	}
	for i := range x.Kids {
		scribbleTree(t, &x.Kids[i], met)
		x.Kids[i] = api.Tree{Rule: 77}
	}
	if len(x.Kids) > 0 && met[&x.Kids[0]] || len(x.From.Firsts) > 0 && met[&x.From.Firsts[0]] {
		t.Fatal("memory in common")
	}
	if len(x.Kids) > 0 {
		met[&x.Kids[0]] = true
	}
	if len(x.From.Firsts) > 0 {
		met[&x.From.Firsts[0]] = true
	}
}

// R4, R10: trees are new memory, and so are counts.
func TestTreeMemory(t *testing.T) {
	r := dice()
	firsts := 0
	for range rounds {
		s, source, all := whole(t, r, 6)
		c := api.Couple{Source: source, Target: pick(r, all...).words}
		before := fmt.Sprint(s, c)
		l, again := fits(t, s, c, 64), fits(t, s, c, 64)
		texts, met := writtenAll(l), map[any]bool{}
		firsts += strings.Count(texts[0], ".")
		for i := range l {
			scribbleTree(t, &l[i], met)
			if got := writtenAll(l[i+1:]); !slices.Equal(got, texts[i+1:]) {
				t.Fatalf("%q, but %q", got, texts[i+1:])
			}
		}
		if got := writtenAll(again); !slices.Equal(got, texts) {
			t.Fatalf("%q, but %q", got, texts)
		}
		_, uses, _ := train.Count(s, c)
		text := counted(s, c)
		for i := range uses {
			uses[i] = 77
		}
		_ = append(uses, 77)
		if got := counted(s, c); got != text || fmt.Sprint(s, c) != before {
			t.Fatal(got, text)
		}
	}
	if firsts == 0 {
		t.Error("no compounds were seen")
	}
}

// P0.1: any arguments are answered, with an error or a result.
func TestAnyArguments(t *testing.T) {
	r := dice()
	number := func() int {
		return pick(r, math.MinInt, -2, -1, 0, 0, 1, 1, 2, 3, 64, 65, 100, 101, 1<<20, 1<<20+1, 1<<31-1, 1<<31, math.MaxInt)
	}
	text := func() string { return pick(r, "", "x", "x", "y", "u", "~", " ", "\xff", strings.Repeat("x", 25)) }
	sentence := func() []string {
		if r.IntN(3) > 0 {
			return anyWords(r, 4)
		}
		return some(r, 18, text)
	}
	anyCouple := func() api.Couple {
		out := api.Couple{Source: sentence(), Target: sentence()}
		if r.IntN(30) == 0 {
			out.Target = slices.Repeat([]string{"x"}, 4095+r.IntN(4))
		}
		return out
	}
	codes := map[api.Errno]int{}
	for range 10 * rounds {
		s := anySystem(r)
		if r.IntN(8) == 0 {
			s.Rules = append(s.Rules, api.Rule{Left: pick(r, "A", "", "?"), Cost: number(), Source: []api.Item{{Part: number()}}})
		}
		check := func(name string, e api.Errno, zero bool) {
			codes[e]++
			if e != api.OK && !zero {
				t.Fatalf("%s: %v: error %d, but a result", name, s, e)
			}
		}
		zero := func(s api.System) bool { return sameSystem(s, api.System{}) }
		l, e := train.Fits(s, anyCouple(), number())
		check("Fits", e, len(l) == 0)
		trees, uses, e := train.Count(s, anyCouple())
		check("Count", e, trees == 0 && len(uses) == 0)
		couples := some(r, pick(r, 1, 3, 3, 70), anyCouple)
		rules, e := train.Unused(s, couples)
		check("Unused", e, len(rules) == 0)
		n, e := train.Bits(number(), number())
		check("Bits", e, n == 0)
		counts := make([]int, len(s.Rules))
		for i := range counts {
			counts[i] = pick(r, i, i, i, i, i, i, i, i, i, number())
		}
		better, e := train.Costs(s, counts)
		check("Costs", e, zero(better))
		better, before, after, e := train.Estimate(s, couples)
		check("Estimate", e, zero(better) && before == 0 && after == 0)
		better, totals, e := train.Train(s, couples, number())
		check("Train", e, zero(better) && len(totals) == 0)
		m, e := train.Build(some(r, pick(r, 1, 3, 70), sentence))
		check("Build", e, m.Unknown == 0 && len(m.Words) == 0 && len(m.Pairs) == 0)
	}
	for _, e := range []api.Errno{api.OK, api.ErrArg, api.ErrLimit, api.ErrName} {
		if codes[e] == 0 {
			t.Errorf("error %d was not seen: %v", e, codes)
		}
	}
}

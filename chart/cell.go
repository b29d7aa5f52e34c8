package chart

import (
	"iter"
	"slices"
	"strings"

	"truchman/api"
	"truchman/grammar"
)

// cell is what is found of a span.
type cell struct {
	span
	heads  []*head
	found  map[key]*head // those with a category
	groups map[use][]group
	solved map[question]answer
	edges  int
}

// printed is how a pair of bundles is written.
type printed struct{ source, target string }

func printPair(p grammar.Pair) printed { return printed{printBundle(p.Source), printBundle(p.Target)} }

func printBundle(b []api.Feat) string {
	var out strings.Builder
	for _, f := range b { // names and values have no such bytes as these
		out.WriteString(f.Name + "=" + f.Value + " ")
	}
	return out.String()
}

// key tells the items of a span with a category apart.
type key struct {
	cat  string
	pair printed
}

// group is items that are all the same to a part of a rule: they differ in no feature that its equations name.
type group struct {
	pair  grammar.Pair // with these features alone
	text  printed
	heads []*head
}

func headsOf(groups []group) [][]*head {
	var out [][]*head
	for _, g := range groups {
		out = append(out, g.heads)
	}
	return out
}

// join puts an item into the group of a use that has a pair.
func (c *cell) join(u use, h *head, pair grammar.Pair) {
	text := printPair(pair)
	groups := c.groups[u]
	i := slices.IndexFunc(groups, func(g group) bool { return g.text == text })
	if i < 0 {
		i = len(groups)
		groups = append(groups, group{pair: pair, text: text})
	}
	groups[i].heads = append(groups[i].heads, h)
	c.groups[u] = groups
}

// rule is a rule of a system.
type rule struct {
	api.Rule
	alone api.System // in which it is rule 0
}

// newRule makes a rule with a system that has no more than solving it takes, because grammar.Solve looks at all of its system each time.
func newRule(s api.System, r api.Rule) rule {
	alone := r
	alone.Left = "A"
	alone.Parts = make([]api.Part, len(r.Parts))
	for i := range alone.Parts {
		alone.Parts[i] = api.Part{Cat: "B"}
	}
	return rule{r, api.System{
		Source: api.Lexicon{Traits: s.Source.Traits}, Target: api.Lexicon{Traits: s.Target.Traits},
		Start: "A", Rules: []api.Rule{alone},
	}}
}

// seen returns those features of a pair that equations name of a part.
func (r rule) seen(part int, pair grammar.Pair) grammar.Pair {
	return grammar.Pair{Source: r.named(api.Path{Node: part + 1}, pair.Source), Target: r.named(api.Path{Node: part + 1, Target: true}, pair.Target)}
}

// named returns those features of a bundle that equations name of the node and the side of a path.
func (r rule) named(at api.Path, b []api.Feat) []api.Feat {
	var out []api.Feat
	for _, f := range b {
		at.Name = f.Name
		if slices.ContainsFunc(r.Equations, func(q api.Equation) bool { return q.A == at || q.B == at }) {
			out = append(out, f)
		}
	}
	return out
}

// question asks for the pair of the left side of a rule, by the pairs of its parts. Many choices of items ask the same, so answers are kept.
type question struct {
	rule  int
	parts [api.MaxParts]printed
}

type answer struct {
	left grammar.Pair
	ok   bool
}

// solve solves a rule for a group of each part; false if it fails. A zero group has no features, and says nothing.
func (c *cell) solve(n int, r rule, chosen []group) (grammar.Pair, bool) {
	q := question{rule: n}
	for i, g := range chosen {
		q.parts[i] = g.text
	}
	a, ok := c.solved[q]
	if !ok {
		var pairs []grammar.Pair
		for _, g := range chosen {
			pairs = append(pairs, g.pair)
		}
		left, e := grammar.Solve(r.alone, 0, pairs)
		a = answer{left, e == api.OK}
		c.solved[q] = a
	}
	return a.left, a.ok
}

// solutions tells the choices of a group for each part for which a rule does not fail, with the pairs of its left side.
func (c *cell) solutions(n int, r rule, parts [][]group) iter.Seq2[[]group, grammar.Pair] {
	return func(yield func([]group, grammar.Pair) bool) {
		chosen := make([]group, len(parts))
		var choose func(i int, parts [][]group) bool
		choose = func(i int, parts [][]group) bool {
			if i == len(parts) {
				left, ok := c.solve(n, r, chosen)
				return !ok || yield(chosen, left)
			}
			for _, g := range parts[i] {
				chosen[i] = g
				if rest, ok := c.narrowed(n, r, i, g, parts); ok && !choose(i+1, rest) {
					return false
				}
			}
			return true
		}
		choose(0, parts)
	}
}

// narrowed returns the groups of parts, without those of the parts behind i with which a rule fails if g is chosen for i; false if a part has none left. (If a rule fails, it does so by the pairs of two parts at most.)
func (c *cell) narrowed(n int, r rule, i int, g group, parts [][]group) ([][]group, bool) {
	out := slices.Clone(parts)
	for j := i + 1; j < len(parts); j++ {
		out[j] = nil
		for _, h := range parts[j] {
			both := make([]group, len(parts))
			both[i], both[j] = g, h
			if _, ok := c.solve(n, r, both); ok {
				out[j] = append(out[j], h)
			}
		}
		if len(out[j]) == 0 {
			return nil, false
		}
	}
	return out, true
}

// choices tells all lists that have an element of each of some lists.
func choices[T any](lists [][]T) iter.Seq[[]T] {
	return func(yield func([]T) bool) { choose(lists, nil, yield) }
}

// choose goes on with the elements that are chosen of the first lists; false if it is to end.
func choose[T any](lists [][]T, chosen []T, yield func([]T) bool) bool {
	if len(chosen) == len(lists) {
		return yield(slices.Clone(chosen))
	}
	for _, x := range lists[len(chosen)] {
		if !choose(lists, append(chosen, x), yield) {
			return false
		}
	}
	return true
}

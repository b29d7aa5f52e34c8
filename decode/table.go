package decode

import (
	"iter"
	"maps"
	"slices"

	"truchman/api"
	"truchman/chart"
	"truchman/morph"
)

// ends are the first and the last one of some words; both are empty if there are none.
type ends struct{ first, last string }

// alone returns the ends of a word by itself.
func alone(word string) ends { return ends{word, word} }

// job is a forest, and what it takes to weigh its trees.
type job struct {
	*chart.Forest
	rules  []api.Rule
	steps  steps
	target api.Lexicon
	forms  map[int][]string // of the entries of the target lexicon that were asked for
}

func newJob(s api.System, m api.Model, words []string) (*job, api.Errno) {
	f, e := chart.Parse(s, words)
	if e != api.OK {
		return nil, e
	}
	if e := Check(m); e != api.OK {
		return nil, e
	}
	return &job{f, s.Rules, stepsOf(m), s.Target, map[int][]string{}}, api.OK
}

// form returns the target word of a lexical item's tree.
func (j *job) form(t api.Tree) string {
	words, ok := j.forms[t.Entry]
	if !ok {
		words, _ = morph.Forms(j.target, t.Entry)
		j.forms[t.Entry] = words
	}
	return words[t.Slot]
}

// row is what is known of trees, by the ends of their target words.
type row[T any] map[ends]T

// way is how trees come of others: of those of left, by a step of some cost, with those of right, if there is a right, as kids for a part.
type way[T any] struct {
	left, right T
	part, cost  int
}

// table finds what is to be known of the items of a forest.
type table[T any] struct {
	*job
	leaf func(x ranked) T                    // what is known of a tree by itself
	add  func(old T, known bool, w way[T]) T // what is known once there is one more way
	keep func(r row[T]) row[T]               // what of all that an item keeps; nil: all of it
	rows []row[T]                            // of the items that were asked for
}

// costsOf returns a table of the least costs of trees.
func costsOf(j *job) *table[int] {
	return &table[int]{
		job:  j,
		leaf: func(x ranked) int { return x.cost },
		add: func(old int, known bool, w way[int]) int {
			cost := w.left + w.right + w.cost
			if known {
				return min(old, cost)
			}
			return cost
		},
		rows: make([]row[int], j.Len()),
	}
}

// treesOf returns a table of the trees themselves.
func treesOf(j *job) *table[*list] {
	return &table[*list]{job: j, leaf: only, add: extended, rows: make([]row[*list], j.Len())}
}

func (t *table[T]) put(r row[T], at ends, w way[T]) {
	old, known := r[at]
	r[at] = t.add(old, known, w)
}

// row returns what is known of an item.
func (t *table[T]) row(n int) row[T] {
	if t.rows[n] == nil {
		out := row[T]{}
		for at, x := range t.made(n, t.row) {
			t.put(out, at, way[T]{left: x})
		}
		if t.keep != nil {
			out = t.keep(out)
		}
		t.rows[n] = out
	}
	return t.rows[n]
}

// total returns what is known of the trees of all goals, their totals being their costs; false if there are none.
func (t *table[T]) total(rows func(n int) row[T]) (T, bool) {
	out := row[T]{}
	for _, n := range t.Goals() {
		for at, x := range rows(n) {
			t.put(out, ends{}, way[T]{left: x, cost: t.steps.around(at)})
		}
	}
	all, ok := out[ends{}]
	return all, ok
}

// made tells what comes of each edge of an item, for all choices of states of its kids; of a lexical item, what is known of its tree.
func (t *table[T]) made(n int, kids func(n int) row[T]) iter.Seq2[ends, T] {
	return func(yield func(ends, T) bool) {
		x, _ := t.Item(n)
		if x.Cat == "" {
			yield(alone(t.form(x.Lex)), t.leaf(ranked{0, x.Lex}))
			return
		}
		edges, _ := t.Edges(n)
		for _, g := range edges {
			for at, x := range t.combined(g, kids) {
				if !yield(at, x) {
					return
				}
			}
		}
	}
}

// combined returns what comes of an edge. Choices that have the same ends as far as the rule's Target is gone through go on alike, so they are no more told apart.
func (t *table[T]) combined(g chart.Edge, kids func(n int) row[T]) row[T] {
	r := t.rules[g.Rule]
	out := row[T]{{}: t.leaf(ranked{r.Cost, api.Tree{Rule: g.Rule, Kids: make([]api.Tree, len(r.Parts))}})}
	for _, x := range r.Target {
		if x.Part == 0 {
			out = t.next(out, []string{x.Word})
		} else {
			out = t.join(out, kids(g.Kids[x.Part-1]), x.Part-1)
		}
	}
	return out
}

// next returns what is known once one of some words stands behind what there was.
func (t *table[T]) next(left row[T], words []string) row[T] {
	out := row[T]{}
	for a, x := range left {
		for _, word := range words {
			if a == (ends{}) {
				t.put(out, alone(word), way[T]{left: x})
			} else {
				t.put(out, ends{a.first, word}, way[T]{left: x, cost: t.steps.step(a.last, word)})
			}
		}
	}
	return out
}

// join returns what is known once the words of a kid stand behind what there was. The step to the kid's first word is taken ahead of the rest of the kid, because that is far less to go through than all pairs of states, of which many have the same last or first word.
func (t *table[T]) join(left, kid row[T], part int) row[T] {
	out := row[T]{}
	if y, ok := kid[ends{}]; ok {
		for a, x := range left {
			t.put(out, a, way[T]{x, y, part, 0})
		}
	}
	begun := byFirst(kid)
	for a, x := range t.next(left, slices.Collect(maps.Keys(begun))) {
		for _, b := range begun[a.last] {
			t.put(out, ends{a.first, b.last}, way[T]{x, kid[b], part, 0})
		}
	}
	return out
}

// byFirst returns the ends of a row that have words, by the first one.
func byFirst[T any](r row[T]) map[string][]ends {
	out := map[string][]ends{}
	for at := range r {
		if at != (ends{}) {
			out[at.first] = append(out[at.first], at)
		}
	}
	return out
}

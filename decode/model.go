package decode

import (
	"cmp"
	"slices"

	"truchman/api"
	"truchman/morph"
)

// mostScored is how many words are scored at most: a tree with MaxNodes nodes has no more.
const mostScored = 4096

// Check returns the first error of a model.
func Check(m api.Model) api.Errno {
	if !isCost(m.Unknown) {
		return api.ErrArg
	}
	if len(m.Words) > api.MaxUni || len(m.Pairs) > api.MaxBi {
		return api.ErrLimit
	}
	for i, u := range m.Words {
		if !isPlace(u.Word) || !isCost(u.Cost) || !isCost(u.Back) {
			return api.ErrArg
		}
		if i > 0 && m.Words[i-1].Word >= u.Word {
			return disorder(m.Words[i-1].Word == u.Word)
		}
	}
	for i, p := range m.Pairs {
		if !isPlace(p.First) || !isPlace(p.Second) || !isCost(p.Cost) {
			return api.ErrArg
		}
		if i > 0 && comparePairs(m.Pairs[i-1], p) >= 0 {
			return disorder(comparePairs(m.Pairs[i-1], p) == 0)
		}
	}
	return api.OK
}

func isCost(n int) bool { return 0 <= n && n <= api.MaxCost }

// isPlace reports whether s is a word, or empty: the beginning or the end.
func isPlace(s string) bool { return s == "" || morph.Word(s) }

func comparePairs(a, b api.Bi) int {
	return cmp.Or(cmp.Compare(a.First, b.First), cmp.Compare(a.Second, b.Second))
}

// disorder returns the error of something that does not come behind the one before it: whether that is the same, or greater.
func disorder(same bool) api.Errno {
	if same {
		return api.ErrTwice
	}
	return api.ErrArg
}

// Step returns the cost of the step from a to b.
func Step(m api.Model, a, b string) (int, api.Errno) {
	if e := Check(m); e != api.OK {
		return 0, e
	}
	if !isPlace(a) || !isPlace(b) {
		return 0, api.ErrArg
	}
	return stepsOf(m).step(a, b), api.OK
}

// Score returns the score of words.
func Score(m api.Model, words []string) (int, api.Errno) {
	if e := Check(m); e != api.OK {
		return 0, e
	}
	if len(words) > mostScored {
		return 0, api.ErrLimit
	}
	if slices.ContainsFunc(words, func(w string) bool { return !morph.Word(w) }) {
		return 0, api.ErrArg
	}
	return stepsOf(m).score(words), api.OK
}

// steps tells what the steps of a valid model cost.
type steps struct {
	unknown int
	words   map[string]api.Uni
	pairs   map[[2]string]int
}

func stepsOf(m api.Model) steps {
	out := steps{m.Unknown, map[string]api.Uni{}, map[[2]string]int{}}
	for _, u := range m.Words {
		out.words[u.Word] = u
	}
	for _, p := range m.Pairs {
		out.pairs[[2]string{p.First, p.Second}] = p.Cost
	}
	return out
}

func (s steps) step(a, b string) int {
	if cost, ok := s.pairs[[2]string{a, b}]; ok {
		return cost
	}
	back := s.words[a].Back
	if u, ok := s.words[b]; ok {
		return back + u.Cost
	}
	return back + s.unknown
}

func (s steps) score(words []string) int {
	out, last := 0, ""
	for _, w := range words {
		out += s.step(last, w)
		last = w
	}
	return out + s.step(last, "")
}

// around returns the cost of the steps from the beginning to some words, and from these to the end; of the step from the beginning to the end if there are none.
func (s steps) around(e ends) int {
	if e == (ends{}) {
		return s.step("", "")
	}
	return s.step("", e.first) + s.step(e.last, "")
}

package train

import (
	"maps"
	"slices"

	"truchman/api"
)

// step is two words that stand one behind the other; an empty one is the beginning, or the end.
type step [2]string

func compareSteps(a, b step) int { return slices.Compare(a[:], b[:]) }

// Build returns the model of sentences.
func Build(sentences [][]string) (api.Model, api.Errno) {
	if e := checkSentences(sentences); e != api.OK {
		return api.Model{}, e
	}
	t := tallyOf(sentences)
	if len(t.words) > api.MaxUni {
		return api.Model{}, api.ErrLimit
	}
	out := api.Model{Unknown: bitsOf(1, t.all+1)}
	for _, word := range slices.Sorted(maps.Keys(t.words)) {
		cost, back := bitsOf(t.words[word], t.all+1), bitsOf(t.next[word], t.from(word))
		out.Words = append(out.Words, api.Uni{Word: word, Cost: cost, Back: back})
	}
	for _, x := range slices.SortedFunc(maps.Keys(t.steps), compareSteps) {
		cost := bitsOf(t.steps[x], t.from(x[0]))
		out.Pairs = append(out.Pairs, api.Bi{First: x[0], Second: x[1], Cost: cost})
	}
	return out, api.OK
}

func checkSentences(sentences [][]string) api.Errno {
	if len(sentences) > api.MaxPairs {
		return api.ErrLimit
	}
	if len(sentences) == 0 {
		return api.ErrArg
	}
	for _, words := range sentences {
		if len(words) > api.MaxSent {
			return api.ErrLimit
		}
		if !areWords(words) {
			return api.ErrArg
		}
	}
	return api.OK
}

// tally is how many steps sentences have.
type tally struct {
	all   int
	steps map[step]int   // the same ones
	words map[string]int // to a word, from which there are as many
	next  map[string]int // the different ones from a word
}

func tallyOf(sentences [][]string) tally {
	t := tally{steps: map[step]int{}, words: map[string]int{}, next: map[string]int{}}
	for _, words := range sentences {
		last := ""
		for _, word := range words {
			t.count(step{last, word})
			last = word
		}
		t.count(step{last, ""})
	}
	return t
}

func (t *tally) count(x step) {
	t.all++
	if t.steps[x] == 0 {
		t.next[x[0]]++
	}
	t.steps[x]++
	t.words[x[1]]++
}

// from returns the number of steps from a word, and of the different ones, together.
func (t *tally) from(word string) int { return t.words[word] + t.next[word] }

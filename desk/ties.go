package desk

import (
	"strconv"

	"truchman/api"
	"truchman/grammar"
)

// Ties returns which target word came of which source word.
func Ties(s api.System, t api.Tree) ([]api.Tie, api.Errno) {
	if _, e := grammar.Derive(s, t); e != api.OK {
		return nil, e
	}
	return tiesOf(s.Rules, t), api.OK
}

// tiesOf returns the ties of a tree that has a reading.
func tiesOf(rules []api.Rule, t api.Tree) []api.Tie {
	targets := map[string]int{}
	eachWord(rules, t, func(r api.Rule) []api.Item { return r.Target }, func(path string, number int) {
		targets[path] = number
	})
	var out []api.Tie
	eachWord(rules, t, func(r api.Rule) []api.Item { return r.Source }, func(path string, number int) {
		out = append(out, api.Tie{Source: number, Target: targets[path]})
	})
	return out
}

// eachWord tells, in the order of one side, the number of the word of each lexical tree, and the path to that: the numbers of parts, which have one digit each.
func eachWord(rules []api.Rule, t api.Tree, side func(api.Rule) []api.Item, tell func(path string, number int)) {
	words := 0
	var enter func(t api.Tree, path string)
	enter = func(t api.Tree, path string) {
		if t.Rule < 0 {
			tell(path, words)
			words++
			return
		}
		for _, x := range side(rules[t.Rule]) {
			if x.Part == 0 {
				words++
			} else {
				enter(t.Kids[x.Part-1], path+strconv.Itoa(x.Part))
			}
		}
	}
	enter(t, "")
}

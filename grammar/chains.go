package grammar

import (
	"slices"

	"truchman/api"
)

// chain leads from a category to another one.
type chain struct{ from, to string }

// chainsOf returns the chains of a system, in the order of rules.
func chainsOf(s api.System) []chain {
	var out []chain
	for _, r := range s.Rules {
		if len(r.Source) != 1 || r.Source[0].Part == 0 {
			continue
		}
		if cat := r.Parts[r.Source[0].Part-1].Cat; cat != "" {
			out = append(out, chain{r.Left, cat})
		}
	}
	return out
}

// circular reports whether chains lead from a category back to itself. Those behind which no chain goes on are left out, again and again; if some are left, each of them leads to another one for ever.
func circular(chains []chain) bool {
	for len(chains) > 0 {
		var rest []chain
		for _, c := range chains {
			if slices.ContainsFunc(chains, func(next chain) bool { return next.from == c.to }) {
				rest = append(rest, c)
			}
		}
		if len(rest) == len(chains) {
			return true
		}
		chains = rest
	}
	return false
}

// Chains returns the chains of a system: of each its Left, and the category of its part.
func Chains(s api.System) ([][]string, api.Errno) {
	if e := Check(s); e != api.OK {
		return nil, e
	}
	return converted(chainsOf(s), func(c chain) []string { return []string{c.from, c.to} }), api.OK
}

// Useful returns the rules that could take part in a tree of the start category.
func Useful(s api.System) ([]int, api.Errno) {
	if e := Check(s); e != api.OK {
		return nil, e
	}
	made := productive(s.Rules)
	reached := reachable(s, made)
	var out []int
	for i, r := range s.Rules {
		if reached[r.Left] && complete(r, made) {
			out = append(out, i)
		}
	}
	return out, api.OK
}

// complete reports whether the categories of all parts are among those that are made.
func complete(r api.Rule, made map[string]bool) bool {
	return !slices.ContainsFunc(r.Parts, func(p api.Part) bool { return p.Cat != "" && !made[p.Cat] })
}

// productive returns the categories that are productive.
func productive(rules []api.Rule) map[string]bool {
	made := map[string]bool{}
	for before := -1; before < len(made); {
		before = len(made)
		for _, r := range rules {
			if complete(r, made) {
				made[r.Left] = true
			}
		}
	}
	return made
}

// reachable returns the categories that are reachable, and an empty one if lexical parts are.
func reachable(s api.System, made map[string]bool) map[string]bool {
	reached := map[string]bool{s.Start: true}
	for before := 0; before < len(reached); {
		before = len(reached)
		for _, r := range s.Rules {
			if !reached[r.Left] || !complete(r, made) {
				continue
			}
			for _, p := range r.Parts {
				reached[p.Cat] = true
			}
		}
	}
	return reached
}

// Moves returns how many pairs of parts of a rule stand in Target in the other order than in Source.
func Moves(s api.System, rule int) (int, api.Errno) {
	if e := Check(s); e != api.OK {
		return 0, e
	}
	r, ok := ruleOf(s, rule)
	if !ok {
		return 0, api.ErrNone
	}
	moves := 0
	for b := range r.Parts {
		for a := range b {
			ahead := placeOf(r.Source, a+1) < placeOf(r.Source, b+1)
			if ahead != (placeOf(r.Target, a+1) < placeOf(r.Target, b+1)) {
				moves++
			}
		}
	}
	return moves, api.OK
}

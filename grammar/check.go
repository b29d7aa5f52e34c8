package grammar

import (
	"slices"

	"truchman/api"
	"truchman/morph"
)

// Check returns the first error of a system.
func Check(s api.System) api.Errno {
	if e := morph.Check(s.Source); e != api.OK {
		return e
	}
	if e := morph.Check(s.Target); e != api.OK {
		return e
	}
	if !morph.Name(s.Start) {
		return api.ErrName
	}
	if len(s.Rules) > api.MaxRules {
		return api.ErrLimit
	}
	for _, r := range s.Rules {
		if e := checkRule(s, r); e != api.OK {
			return e
		}
	}
	if circular(chainsOf(s)) {
		return api.ErrLoop
	}
	return api.OK
}

func checkRule(s api.System, r api.Rule) api.Errno {
	parts := [...]func(api.System, api.Rule) api.Errno{checkParts, checkSides, checkEquations}
	for _, check := range parts {
		if e := check(s, r); e != api.OK {
			return e
		}
	}
	if r.Cost < 0 || r.Cost > api.MaxCost {
		return api.ErrArg
	}
	return api.OK
}

func checkParts(s api.System, r api.Rule) api.Errno {
	if !morph.Name(r.Left) {
		return api.ErrName
	}
	if len(r.Parts) > api.MaxParts {
		return api.ErrLimit
	}
	for _, p := range r.Parts {
		if e := checkPart(s, p); e != api.OK {
			return e
		}
	}
	return api.OK
}

func checkPart(s api.System, p api.Part) api.Errno {
	switch {
	case p.Cat == "":
		if !hasLemma(s.Source, p.From) || !hasLemma(s.Target, p.To) {
			return api.ErrNone
		}
	case !morph.Name(p.Cat):
		return api.ErrName
	case p.From != "" || p.To != "":
		return api.ErrArg
	}
	return api.OK
}

func checkSides(_ api.System, r api.Rule) api.Errno {
	if len(r.Source) > api.MaxItems || len(r.Target) > api.MaxItems {
		return api.ErrLimit
	}
	if len(r.Source) == 0 {
		return api.ErrArg
	}
	for _, items := range [...][]api.Item{r.Source, r.Target} {
		for i, x := range items {
			if e := checkItem(x, items[:i], len(r.Parts)); e != api.OK {
				return e
			}
		}
	}
	for i := range r.Parts {
		if placeOf(r.Source, i+1) < 0 || placeOf(r.Target, i+1) < 0 {
			return api.ErrNone
		}
	}
	return api.OK
}

// checkItem returns the first error of an item, with the items ahead of it, in a rule with so many parts.
func checkItem(x api.Item, ahead []api.Item, parts int) api.Errno {
	switch {
	case x.Part < 0 || x.Part > parts:
		return api.ErrArg
	case x.Part == 0:
		if !morph.Word(x.Word) {
			return api.ErrArg
		}
	case x.Word != "":
		return api.ErrArg
	case placeOf(ahead, x.Part) >= 0:
		return api.ErrTwice
	}
	return api.OK
}

// placeOf returns where a part stands among items, or -1.
func placeOf(items []api.Item, part int) int {
	return slices.IndexFunc(items, func(x api.Item) bool { return x.Part == part })
}

func checkEquations(s api.System, r api.Rule) api.Errno {
	if len(r.Equations) > api.MaxEqual {
		return api.ErrLimit
	}
	for _, q := range r.Equations {
		if e := checkEquation(s, q, len(r.Parts)); e != api.OK {
			return e
		}
	}
	return api.OK
}

func checkEquation(s api.System, q api.Equation, parts int) api.Errno {
	if e := checkPath(s, q.A, parts); e != api.OK {
		return e
	}
	if q.Value == "" {
		return checkPath(s, q.B, parts)
	}
	values, _ := valuesOf(s, q.A)
	if q.B != (api.Path{}) || !slices.Contains(values, q.Value) {
		return api.ErrArg
	}
	return api.OK
}

func checkPath(s api.System, p api.Path, parts int) api.Errno {
	if p.Node < 0 || p.Node > parts {
		return api.ErrArg
	}
	if _, ok := valuesOf(s, p); !ok {
		return api.ErrName
	}
	return api.OK
}

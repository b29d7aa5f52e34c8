package checks

import (
	"slices"

	"truchman/api"
	"truchman/docs"
)

// valueKind is the type of a term; formulas have the truth.
type valueKind uint8

const (
	truthKind valueKind = iota
	numberKind
	textKind
	listKind
	sideKind
)

// checker finds the first error of a term, from the left, inner ones first.
type checker struct{ tools map[string]tool }

// kindOf returns the type of a term in which names are bound, or its first error.
func (c checker) kindOf(t api.Term, bound []string) (valueKind, api.Errno) {
	var subs []valueKind
	for i, sub := range t.Subs {
		inside := bound
		if i == 1 && isQuantifier(t.Kind) {
			inside = slices.Concat(bound, []string{t.Text})
		}
		kind, e := c.kindOf(sub, inside)
		if e != api.OK {
			return truthKind, e
		}
		subs = append(subs, kind)
	}
	if t.Kind == api.TeName && !slices.Contains(bound, t.Text) {
		return truthKind, api.ErrName
	}
	kind, ok := c.join(t, subs)
	if !ok {
		return truthKind, api.ErrArg
	}
	return kind, api.OK
}

func isQuantifier(kind api.TermKind) bool { return kind == api.TeAll || kind == api.TeAny }

// join returns the type of a term that has parts of these types; false if it may not have them.
func (c checker) join(t api.Term, subs []valueKind) (valueKind, bool) {
	switch t.Kind {
	case api.TeNumber:
		return numberKind, true
	case api.TeText, api.TeName:
		return textKind, true
	case api.TeSource, api.TeTarget:
		return sideKind, true
	case api.TeAdd, api.TeSub, api.TeMul:
		return numberKind, areNumbers(subs)
	case api.TeCompare:
		return truthKind, areCompared(t.Text, subs)
	case api.TeAll, api.TeAny:
		return truthKind, subs[0] == listKind
	case api.TeCall, api.TeTest:
		x := c.tools[t.Text]
		ok := slices.Equal(x.takes, subs) && (!x.pattern || isPattern(t.Subs[1]))
		return x.gives, ok
	}
	return truthKind, true
}

func areNumbers(kinds []valueKind) bool {
	return slices.Equal(kinds, []valueKind{numberKind, numberKind})
}

// areCompared reports whether an operator compares values of these two types.
func areCompared(operator string, kinds []valueKind) bool {
	switch operator {
	case "==", "!=":
		return kinds[0] == kinds[1] && kinds[0] != sideKind
	case "in":
		return kinds[0] == textKind && kinds[1] == listKind
	case "~":
		return kinds[0] == listKind && kinds[1] == listKind
	}
	return areNumbers(kinds)
}

// isPattern reports whether a term is a string that is the pattern of a break rule.
func isPattern(t api.Term) bool {
	return t.Kind == api.TeText && docs.CheckBreaks([]api.Break{{After: t.Text}}) == api.OK
}

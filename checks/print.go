package checks

import (
	"slices"
	"strconv"
	"strings"

	"truchman/api"
)

// Print returns the written form of a tree.
func Print(t api.Term) (string, api.Errno) {
	left := api.MaxFormula
	if !isSmall(t, api.MaxNest, &left) {
		return "", api.ErrArg
	}
	text := written(t)
	if again, _, e := Parse(text); e != api.OK || !Same(t, again) {
		return "", api.ErrArg
	}
	return text, api.OK
}

// isSmall reports whether a tree is not too deep, and has no more nodes than are left: each node of a formula is written with at least one byte of its own.
func isSmall(t api.Term, deepest int, left *int) bool {
	*left--
	if deepest == 0 || *left < 0 {
		return false
	}
	for _, sub := range t.Subs {
		if !isSmall(sub, deepest-1, left) {
			return false
		}
	}
	return true
}

// Same reports whether two trees are equal.
func Same(a, b api.Term) bool {
	return a.Kind == b.Kind && a.Text == b.Text && a.Num == b.Num && slices.EqualFunc(a.Subs, b.Subs, Same)
}

// written returns the written form of a tree; what it returns for a tree that is none of a formula is not parsed as that.
func written(t api.Term) string {
	switch t.Kind {
	case api.TeNumber:
		return strconv.FormatInt(t.Num, 10)
	case api.TeText:
		return quoted(t.Text)
	case api.TeName:
		return t.Text
	case api.TeSource:
		return "source"
	case api.TeTarget:
		return "target"
	case api.TeCall, api.TeTest:
		return t.Text + "(" + writtenAll(t, ", ") + ")"
	case api.TeAdd:
		return writtenAll(t, " + ")
	case api.TeSub:
		return writtenAll(t, " - ")
	case api.TeMul:
		return writtenAll(t, " * ")
	case api.TeCompare:
		return writtenAll(t, " "+t.Text+" ")
	case api.TeNot:
		return "not " + writtenAll(t, " ")
	case api.TeAnd:
		return writtenAll(t, " and ")
	case api.TeOr:
		return writtenAll(t, " or ")
	case api.TeAll:
		return "all " + t.Text + " in " + writtenAll(t, ": ")
	case api.TeAny:
		return "any " + t.Text + " in " + writtenAll(t, ": ")
	}
	return ""
}

// writtenAll writes the parts of a tree, with something between each two.
func writtenAll(t api.Term, between string) string {
	var parts []string
	for _, sub := range t.Subs {
		part := written(sub)
		if isWrapped(t.Kind, sub.Kind) {
			part = "(" + part + ")"
		}
		parts = append(parts, part)
	}
	return strings.Join(parts, between)
}

// isWrapped reports whether there are parentheses around a part. No list of a quantifier is a TeOr or a TeAnd.
func isWrapped(around, part api.TermKind) bool {
	switch around {
	case api.TeOr:
		return part == api.TeOr
	case api.TeAnd, api.TeNot, api.TeAll, api.TeAny:
		return part == api.TeOr || part == api.TeAnd
	}
	return false
}

func quoted(s string) string {
	s = strings.ReplaceAll(s, `\`, `\\`)
	return `"` + strings.ReplaceAll(s, `"`, `\"`) + `"`
}

package morph

import (
	"slices"

	"truchman/api"
)

// Bundle returns the first error of a lexicon, then that of a bundle.
func Bundle(l api.Lexicon, b []api.Feat) api.Errno {
	if e := Check(l); e != api.OK {
		return e
	}
	return checkBundle(l.Traits, b)
}

func checkBundle(traits []api.Trait, b []api.Feat) api.Errno {
	if len(b) > api.MaxTraits {
		return api.ErrLimit
	}
	for i, f := range b {
		n := traitOf(traits, f.Name)
		if n < 0 {
			return api.ErrName
		}
		if !slices.Contains(traits[n].Values, f.Value) {
			return api.ErrArg
		}
		if i > 0 && b[i-1].Name == f.Name {
			return api.ErrTwice
		}
		if i > 0 && b[i-1].Name > f.Name {
			return api.ErrArg
		}
	}
	return api.OK
}

// traitOf returns the number of the trait with a name, or -1.
func traitOf(traits []api.Trait, name string) int {
	return slices.IndexFunc(traits, func(t api.Trait) bool { return t.Name == name })
}

// increasing reports whether features are strictly increasing by Name.
func increasing(b []api.Feat) bool {
	for i := 1; i < len(b); i++ {
		if b[i-1].Name >= b[i].Name {
			return false
		}
	}
	return true
}

// Unify returns the unification of two bundles; false if they do not unify.
func Unify(a, b []api.Feat) ([]api.Feat, bool) {
	if !increasing(a) || !increasing(b) {
		return nil, false
	}
	var out []api.Feat
	for len(a) > 0 && len(b) > 0 {
		switch {
		case a[0].Name < b[0].Name:
			out, a = append(out, a[0]), a[1:]
		case a[0].Name > b[0].Name:
			out, b = append(out, b[0]), b[1:]
		case a[0].Value != b[0].Value:
			return nil, false
		default:
			out, a, b = append(out, a[0]), a[1:], b[1:]
		}
	}
	out = append(out, a...)
	return append(out, b...), true
}

// Subsumes reports whether b has all features of a.
func Subsumes(a, b []api.Feat) bool {
	for _, f := range a {
		if !slices.Contains(b, f) {
			return false
		}
	}
	return true
}

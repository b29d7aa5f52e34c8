package train

import (
	"slices"

	"truchman/api"
)

// The functions here return values in new memory.

func cloneSystem(s api.System) api.System {
	s.Source, s.Target = cloneLexicon(s.Source), cloneLexicon(s.Target)
	s.Rules = converted(s.Rules, func(r api.Rule) api.Rule {
		r.Parts, r.Equations = slices.Clone(r.Parts), slices.Clone(r.Equations)
		r.Source, r.Target = slices.Clone(r.Source), slices.Clone(r.Target)
		return r
	})
	return s
}

func cloneLexicon(l api.Lexicon) api.Lexicon {
	l.Traits = converted(l.Traits, func(t api.Trait) api.Trait {
		t.Values = slices.Clone(t.Values)
		return t
	})
	l.Classes = converted(l.Classes, func(c api.Class) api.Class {
		c.Slots = converted(c.Slots, func(s api.Slot) api.Slot {
			s.Feats = slices.Clone(s.Feats)
			return s
		})
		return c
	})
	l.Entries = converted(l.Entries, func(n api.Entry) api.Entry {
		n.Feats, n.Forms = slices.Clone(n.Feats), slices.Clone(n.Forms)
		return n
	})
	l.Spells = slices.Clone(l.Spells)
	l.Links = converted(l.Links, func(k api.Link) api.Link {
		k.Feats = slices.Clone(k.Feats)
		return k
	})
	return l
}

func cloneTree(t api.Tree) api.Tree {
	t.From.Firsts = slices.Clone(t.From.Firsts)
	t.Kids = converted(t.Kids, cloneTree)
	return t
}

// converted returns what is made of each element of a list.
func converted[A, B any](l []A, one func(A) B) []B {
	var out []B
	for _, x := range l {
		out = append(out, one(x))
	}
	return out
}

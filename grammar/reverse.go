package grammar

import (
	"slices"

	"truchman/api"
)

// Reverse returns the system with source and target exchanged.
func Reverse(s api.System) (api.System, api.Errno) {
	if e := Check(s); e != api.OK {
		return api.System{}, e
	}
	if slices.ContainsFunc(s.Rules, func(r api.Rule) bool { return len(r.Target) == 0 }) {
		return api.System{}, api.ErrArg
	}
	out := api.System{
		Source: cloneLexicon(s.Target), Target: cloneLexicon(s.Source), Start: s.Start, Rules: converted(s.Rules, reverseRule),
	}
	if e := Check(out); e != api.OK {
		return api.System{}, e
	}
	return out, api.OK
}

func reverseRule(r api.Rule) api.Rule {
	r.Source, r.Target = slices.Clone(r.Target), slices.Clone(r.Source)
	r.Parts = converted(r.Parts, func(p api.Part) api.Part {
		p.From, p.To = p.To, p.From
		return p
	})
	r.Equations = converted(r.Equations, func(q api.Equation) api.Equation {
		q.A.Target = !q.A.Target
		if q.Value == "" { // otherwise B is no path, and stays zero
			q.B.Target = !q.B.Target
		}
		return q
	})
	return r
}

// cloneLexicon returns a lexicon that shares no memory with l.
func cloneLexicon(l api.Lexicon) api.Lexicon {
	l.Traits = converted(l.Traits, func(t api.Trait) api.Trait {
		t.Values = slices.Clone(t.Values)
		return t
	})
	l.Classes = converted(l.Classes, func(c api.Class) api.Class {
		c.Slots = converted(c.Slots, func(s api.Slot) api.Slot {
			s.Feats = slices.Clone(s.Feats)
			return s
		})
		return c
	})
	l.Entries = converted(l.Entries, func(n api.Entry) api.Entry {
		n.Feats, n.Forms = slices.Clone(n.Feats), slices.Clone(n.Forms)
		return n
	})
	l.Spells = slices.Clone(l.Spells)
	l.Links = converted(l.Links, func(k api.Link) api.Link {
		k.Feats = slices.Clone(k.Feats)
		return k
	})
	return l
}

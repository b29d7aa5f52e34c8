package desk

import (
	"slices"

	"truchman/api"
)

// The functions here return values in new memory.

func cloneCertificate(c api.Certificate) api.Certificate {
	c.Lexicon = cloneLexicon(c.Lexicon)
	c.Analyses = each(c.Analyses, cloneAnalysis)
	c.System.Source, c.System.Target = cloneLexicon(c.System.Source), cloneLexicon(c.System.Target)
	c.System.Rules = each(c.System.Rules, cloneRule)
	c.Model.Words, c.Model.Pairs = slices.Clone(c.Model.Words), slices.Clone(c.Model.Pairs)
	c.Words = slices.Clone(c.Words)
	c.Tree = cloneTree(c.Tree)
	c.Proof = slices.Clone(c.Proof)
	c.Pair.Source, c.Pair.Target = slices.Clone(c.Pair.Source), slices.Clone(c.Pair.Target)
	c.Reasons = each(c.Reasons, func(r api.Reason) api.Reason {
		r.Bounds = slices.Clone(r.Bounds)
		return r
	})
	c.Base, c.A, c.B, c.Merged = cloneOffice(c.Base), cloneOffice(c.A), cloneOffice(c.B), cloneOffice(c.Merged)
	return c
}

func cloneLexicon(l api.Lexicon) api.Lexicon {
	l.Traits = each(l.Traits, func(t api.Trait) api.Trait {
		t.Values = slices.Clone(t.Values)
		return t
	})
	l.Classes = each(l.Classes, func(c api.Class) api.Class {
		c.Slots = each(c.Slots, func(s api.Slot) api.Slot {
			s.Feats = slices.Clone(s.Feats)
			return s
		})
		return c
	})
	l.Entries = each(l.Entries, func(n api.Entry) api.Entry {
		n.Feats, n.Forms = slices.Clone(n.Feats), slices.Clone(n.Forms)
		return n
	})
	l.Spells = slices.Clone(l.Spells)
	l.Links = each(l.Links, func(k api.Link) api.Link {
		k.Feats = slices.Clone(k.Feats)
		return k
	})
	return l
}

func cloneAnalysis(x api.Analysis) api.Analysis {
	x.Firsts = slices.Clone(x.Firsts)
	return x
}

func cloneRule(r api.Rule) api.Rule {
	r.Parts, r.Equations = slices.Clone(r.Parts), slices.Clone(r.Equations)
	r.Source, r.Target = slices.Clone(r.Source), slices.Clone(r.Target)
	return r
}

func cloneTree(t api.Tree) api.Tree {
	t.From = cloneAnalysis(t.From)
	t.Kids = each(t.Kids, cloneTree)
	return t
}

func cloneOffice(o api.Office) api.Office {
	o.Source.Blocks = each(o.Source.Blocks, func(b api.Block) api.Block {
		b.Pieces = slices.Clone(b.Pieces)
		return b
	})
	o.Rules, o.Langs = slices.Clone(o.Rules), slices.Clone(o.Langs)
	o.People, o.Shelf = slices.Clone(o.People), slices.Clone(o.Shelf)
	o.Cells = each(o.Cells, func(row []api.Cell) []api.Cell {
		return each(row, func(c api.Cell) api.Cell {
			c.Others = slices.Clone(c.Others)
			return c
		})
	})
	return o
}

// each returns what a function makes of each element.
func each[A, B any](l []A, do func(A) B) []B {
	var out []B
	for _, x := range l {
		out = append(out, do(x))
	}
	return out
}

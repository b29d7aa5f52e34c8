package grammar

import (
	"iter"

	"truchman/api"
	"truchman/morph"
)

// deriver makes the readings of trees by a valid system.
type deriver struct{ api.System }

// Derive returns the reading of a tree of a rule.
func Derive(s api.System, t api.Tree) (api.Reading, api.Errno) {
	if e := Check(s); e != api.OK {
		return api.Reading{}, e
	}
	if !fits(t) {
		return api.Reading{}, api.ErrLimit
	}
	if isLexical(t) {
		return api.Reading{}, api.ErrArg
	}
	return caught(func() api.Reading { return fold(t, deriver{s}.read) })
}

// readings are those of the kids of a node.
type readings []api.Reading

func (l readings) source(part int) []string { return l[part-1].Source }

func (l readings) target(part int) []string { return l[part-1].Target }

// read returns the reading of a node, by those of its kids.
func (d deriver) read(t api.Tree, kids iter.Seq2[int, api.Reading]) api.Reading {
	if isLexical(t) {
		return d.readLexical(t)
	}
	r := d.rule(t)
	out := api.Reading{Cat: r.Left, Cost: r.Cost}
	var parts readings
	var pairs []Pair
	for i, kid := range kids {
		d.checkLemmas(t.Kids[i], r.Parts[i])
		parts = append(parts, kid)
		pairs = append(pairs, Pair{kid.Left, kid.Right})
		out.Cost += kid.Cost
	}
	left, ok := solve(d.System, r, pairs)
	if !ok {
		panic(api.ErrClash)
	}
	out.Left, out.Right = left.Source, left.Target
	out.Source, out.Target = wordsOf(r.Source, parts.source), wordsOf(r.Target, parts.target)
	return out
}

// rule returns the rule of a node, whose kids are of its parts.
func (d deriver) rule(t api.Tree) api.Rule {
	r, ok := ruleOf(d.System, t.Rule)
	if !ok || !isBare(t) || len(t.Kids) != len(r.Parts) {
		panic(api.ErrArg)
	}
	for i, p := range r.Parts {
		if !d.isOf(t.Kids[i], p) {
			panic(api.ErrArg)
		}
	}
	return r
}

// isBare reports whether From, Entry and Slot of a node are zero.
func isBare(t api.Tree) bool {
	return len(t.From.Firsts) == 0 && t.From.Entry == 0 && t.From.Slot == 0 && t.Entry == 0 && t.Slot == 0
}

// isOf reports whether a tree is of a kind that a part wants.
func (d deriver) isOf(t api.Tree, p api.Part) bool {
	if p.Cat == "" {
		return isLexical(t)
	}
	r, ok := ruleOf(d.System, t.Rule)
	return ok && r.Left == p.Cat
}

// readLexical returns the reading of a lexical tree, whatever its lemmas are.
func (d deriver) readLexical(t api.Tree) api.Reading {
	if len(t.Kids) > 0 {
		panic(api.ErrArg)
	}
	word, e := morph.Build(d.Source, t.From)
	if e != api.OK {
		panic(api.ErrNone)
	}
	form, e := morph.Form(d.Target, t.Entry, t.Slot)
	if e != api.OK {
		panic(api.ErrNone)
	}
	left, _ := morph.Feats(d.Source, t.From.Entry, t.From.Slot)
	right, _ := morph.Feats(d.Target, t.Entry, t.Slot)
	return api.Reading{Source: []string{word}, Target: []string{form}, Left: left, Right: right}
}

// checkLemmas looks whether a tree that has a reading has the lemmas of its part, if that is lexical.
func (d deriver) checkLemmas(t api.Tree, p api.Part) {
	if p.Cat != "" {
		return
	}
	if d.Source.Entries[t.From.Entry].Lemma != p.From || d.Target.Entries[t.Entry].Lemma != p.To {
		panic(api.ErrNone)
	}
}

// wordsOf returns the words of items; of tells those of a part.
func wordsOf(items []api.Item, of func(part int) []string) []string {
	var out []string
	for _, x := range items {
		if x.Part == 0 {
			out = append(out, x.Word)
		} else {
			out = append(out, of(x.Part)...)
		}
	}
	return out
}

package desk

import (
	"cmp"
	"slices"

	"truchman/api"
	"truchman/checks"
	"truchman/decode"
	"truchman/docs"
	"truchman/grammar"
	"truchman/morph"
	"truchman/office"
)

// Verify reports whether a certificate holds, without searching.
func Verify(c api.Certificate) api.Errno {
	var holds bool
	switch c.Kind {
	case api.CtAnalysis:
		holds = isAnalyzed(c)
	case api.CtTranslation:
		holds = isTranslated(c)
	case api.CtFailure:
		holds = isFailed(c)
	case api.CtMerge:
		holds = isMerged(c)
	default:
		return api.ErrArg
	}
	if !holds {
		return api.ErrState
	}
	return api.OK
}

func isAnalyzed(c api.Certificate) bool {
	builds := func(x api.Analysis) bool {
		word, e := morph.Build(c.Lexicon, x)
		return e == api.OK && word == c.Word
	}
	return len(c.Analyses) > 0 && areDistinct(c.Analyses) && all(c.Analyses, builds)
}

// all reports whether something is true of each element.
func all[T any](l []T, is func(T) bool) bool {
	return !slices.ContainsFunc(l, func(x T) bool { return !is(x) })
}

func areDistinct(l []api.Analysis) bool {
	l = slices.SortedFunc(slices.Values(l), compareAnalyses)
	for i := range l {
		if i > 0 && compareAnalyses(l[i-1], l[i]) == 0 {
			return false
		}
	}
	return true
}

func compareAnalyses(a, b api.Analysis) int {
	return cmp.Or(
		cmp.Compare(a.Entry, b.Entry),
		cmp.Compare(a.Slot, b.Slot),
		slices.CompareFunc(a.Firsts, b.Firsts, compareFirsts),
	)
}

func compareFirsts(a, b api.First) int {
	return cmp.Or(cmp.Compare(a.Entry, b.Entry), cmp.Compare(a.Slot, b.Slot), cmp.Compare(a.Link, b.Link))
}

func isTranslated(c api.Certificate) bool {
	r, e := grammar.Derive(c.System, c.Tree)
	if e != api.OK || r.Cat != c.System.Start || !slices.Equal(r.Source, c.Words) {
		return false
	}
	total, e := decode.Total(c.System, c.Model, c.Tree)
	if e != api.OK || total != c.Total {
		return false
	}
	bound, found, e := decode.Bound(c.System, c.Model, c.Words, c.Proof)
	return e == api.OK && found && bound == c.Total
}

func isFailed(c api.Certificate) bool {
	truth, reasons, e := checks.Explain(c.Formula, c.Pair)
	return e == api.OK && !truth && slices.EqualFunc(reasons, c.Reasons, sameReason)
}

func sameReason(a, b api.Reason) bool {
	return a.Formula == b.Formula && slices.Equal(a.Bounds, b.Bounds) && a.True == b.True
}

func isMerged(c api.Certificate) bool {
	text, e := docs.Print(c.Merged.Source)
	if e != api.OK || office.Check(c.Merged) != api.OK {
		return false
	}
	var three [3]api.Office
	for i, o := range [...]api.Office{c.Base, c.A, c.B} {
		next, e := updated(o, c.Merged.Source, text)
		if e != api.OK || !slices.Equal(o.Rules, c.Merged.Rules) {
			return false
		}
		three[i] = next
	}
	for n, lang := range c.Merged.Langs {
		row := c.Merged.Cells[n]
		base, a, b := cellsOf(three[0], lang, len(row)), cellsOf(three[1], lang, len(row)), cellsOf(three[2], lang, len(row))
		for i, merged := range row {
			if isLost(a[i], base[i], merged) || isLost(b[i], base[i], merged) {
				return false
			}
		}
	}
	return true
}

// updated returns an office with a source, which has this written form, or the error of an office.
func updated(o api.Office, source api.Document, text string) (api.Office, api.Errno) {
	if docs.Same(o.Source, source) {
		return o, office.Check(o)
	}
	return office.Apply(o, api.Event{Kind: api.EvSource, Text: text})
}

// cellsOf returns the cells of a language, n empty ones if there is no such language.
func cellsOf(o api.Office, lang string, n int) []api.Cell {
	if at := slices.Index(o.Langs, lang); at >= 0 {
		return o.Cells[at]
	}
	return make([]api.Cell, n)
}

// isLost reports whether a session's cell has a text that a merged cell must have, and has not.
func isLost(own, base, merged api.Cell) bool {
	return isDone(own) && !sameText(own, base) && !keeps(merged, own)
}

// isDone reports whether the text of a cell is approved and fresh.
func isDone(c api.Cell) bool { return c.State == api.CeApproved && !c.Stale }

// sameText compares all of two cells but Lock and Others.
func sameText(a, b api.Cell) bool {
	return a.State == b.State && a.Stale == b.Stale && a.Text == b.Text &&
		a.Author == b.Author && a.Reviewer == b.Reviewer && a.Since == b.Since
}

// keeps reports whether a merged cell has the approved text of another one, as its own or among its Others.
func keeps(merged, c api.Cell) bool {
	if isDone(merged) && merged.Text == c.Text && merged.Author == c.Author {
		return true
	}
	return slices.Contains(merged.Others, api.Other{Text: c.Text, Author: c.Author, Approved: true})
}

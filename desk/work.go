package desk

import (
	"slices"
	"strconv"
	"strings"

	"truchman/api"
	"truchman/checks"
	"truchman/decode"
	"truchman/docs"
	"truchman/grammar"
	"truchman/morph"
	"truchman/office"
	"truchman/terms"
)

func (t *task) analyze() string {
	l, word := t.lexicons[0], t.words[1]
	analyses, e := morph.Analyze(l, word)
	check(e)
	answer := "analyze " + word + ":"
	if len(analyses) == 0 {
		return answer + " none"
	}
	for _, x := range analyses {
		answer += " " + strings.Join(lemmasOf(l, x), "+") + "/" + strconv.Itoa(x.Slot)
	}
	return answer + t.certify(api.Certificate{Kind: api.CtAnalysis, Lexicon: l, Word: word, Analyses: analyses})
}

// lemmasOf returns the lemmas of the parts of an analysis.
func lemmasOf(l api.Lexicon, x api.Analysis) []string {
	var out []string
	for _, f := range x.Firsts {
		out = append(out, l.Entries[f.Entry].Lemma)
	}
	return append(out, l.Entries[x.Entry].Lemma)
}

func (t *task) translate() string {
	words := t.words[2:]
	trees, e := decode.Best(t.system, t.model, words, 1)
	check(e)
	proof, e := decode.Prove(t.system, t.model, words)
	check(e)
	if len(trees) == 0 {
		return "translate: none"
	}
	best := trees[0]
	r, e := grammar.Derive(t.system, best)
	check(e)
	total, e := decode.Total(t.system, t.model, best)
	check(e)
	answer := "translate:"
	for _, w := range r.Target {
		answer += " " + w
	}
	return answer + " total " + strconv.Itoa(total) + t.certify(api.Certificate{
		Kind: api.CtTranslation, System: t.system, Model: t.model, Words: words, Tree: best, Proof: proof, Total: total,
	})
}

// pairs returns the pairs of a language of the command's office.
func (t *task) pairs(lang string) []api.Pair {
	o := t.offices[0]
	at := slices.Index(o.Langs, lang)
	refuse(at < 0, api.ErrNone)
	segments := segmentsOf(o)
	var out []api.Pair
	for i, c := range o.Cells[at] {
		if c.State != api.CeEmpty {
			target, _ := docs.Read(c.Text) // it was read when it came into the cell
			out = append(out, api.Pair{Source: segments[i].Pieces, Target: target})
		}
	}
	return out
}

func (t *task) test() string {
	pairs := t.pairs(t.words[2])
	found, e := checks.Report(t.checks, pairs)
	check(e)
	weight, e := checks.Weigh(t.checks, found)
	check(e)
	answer := "test " + t.words[0] + ": " + counted(len(found), "findings") + " weigh " + strconv.Itoa(weight)
	if len(found) == 0 {
		return answer
	}
	first := found[0]
	return answer + t.certify(api.Certificate{
		Kind: api.CtFailure, Formula: t.checks[first.Check].Formula, Pair: pairs[first.Pair], Reasons: first.Reasons,
	})
}

// allDomains is the word that stands for all domains of a termbase.
const allDomains = "-"

func (t *task) issues() string {
	lang, domain := t.words[2], t.words[3]
	if domain == allDomains {
		domain = ""
	}
	from, to := api.Tongue{Name: t.words[4], Lexicon: t.lexicons[0]}, api.Tongue{Name: lang, Lexicon: t.lexicons[1]}
	l, e := terms.Issues(t.termbase, from, to, domain, t.pairs(lang))
	check(e)
	answer := "issues " + t.words[0] + ": " + strconv.Itoa(len(l))
	for _, x := range l {
		answer += " " + strconv.Itoa(x.Pair) + ":" + strconv.Itoa(int(x.Kind)) + ":" + strconv.Itoa(x.Concept)
	}
	return answer
}

func (t *task) show() string {
	d, e := office.Output(t.offices[0], t.words[1])
	check(e)
	text, e := docs.Print(d)
	check(e)
	return "show " + t.words[0] + " " + t.words[1] + "\n" + text
}

func (t *task) verify() string {
	at := slices.IndexFunc(t.desk.proofs, func(c api.Certificate) bool { return Verify(c) != api.OK })
	if at >= 0 {
		return "refuted " + strconv.Itoa(at)
	}
	return "verified " + strconv.Itoa(len(t.desk.proofs))
}

package terms

import (
	"cmp"
	"slices"

	"truchman/api"
	"truchman/docs"
)

// nowhere is the Term and the At of an issue that is about a concept as a whole.
const nowhere = -1

// found is the occurrences that count in both sides of a pair.
type found struct{ source, target []api.Occurrence }

// Issues returns where translations use terms wrongly.
func Issues(b api.Termbase, from, to api.Tongue, domain string, pairs []api.Pair) ([]api.Issue, api.Errno) {
	f, e := findersOf(b, from, to)
	if e != api.OK {
		return nil, e
	}
	if domain != "" && !slices.Contains(b.Domains, domain) {
		return nil, api.ErrNone
	}
	if len(pairs) > api.MaxSides {
		return nil, api.ErrLimit
	}
	var l []found
	for _, p := range pairs {
		source, e := f[0].findIn(p.Source, domain)
		if e != api.OK {
			return nil, e
		}
		target, e := f[1].findIn(p.Target, domain)
		if e != api.OK {
			return nil, e
		}
		l = append(l, found{source, target})
	}
	return issuesOf(b, l), api.OK
}

// findIn returns docs.Words' error for pieces, or of what Find returns for their bare words the occurrences of concepts of a domain, or of all if that is empty.
func (f *finder) findIn(l []api.Piece, domain string) ([]api.Occurrence, api.Errno) {
	words, e := docs.Words(l)
	if e != api.OK {
		return nil, e
	}
	return slices.DeleteFunc(f.find(docs.Bare(words)), func(o api.Occurrence) bool {
		return domain != "" && f.base.Concepts[o.Concept].Domain != domain
	}), api.OK
}

// issuesOf returns the issues of pairs.
func issuesOf(b api.Termbase, l []found) []api.Issue {
	usual := usualTerms(b, l)
	var out []api.Issue
	for pair, x := range l {
		add := func(kind api.IssueKind, concept, term, at int) {
			out = append(out, api.Issue{Pair: pair, Kind: kind, Concept: concept, Term: term, At: at})
		}
		for concept, n := range missing(b, x) {
			switch {
			case n > 0:
				add(api.IsMissing, concept, nowhere, nowhere)
			case n < 0:
				add(api.IsAdded, concept, nowhere, nowhere)
			}
		}
		for _, o := range x.target {
			switch {
			case isForbidden(b, o):
				add(api.IsForbidden, o.Concept, o.Term, o.At)
			case o.Term != usual[o.Concept]:
				add(api.IsUnlike, o.Concept, o.Term, o.At)
			}
		}
	}
	slices.SortFunc(out, compareIssues)
	return out
}

// compareIssues does not ask for Term: no two occurrences of a target have the same At.
func compareIssues(x, y api.Issue) int {
	return cmp.Or(
		cmp.Compare(x.Pair, y.Pair),
		cmp.Compare(x.Kind, y.Kind),
		cmp.Compare(x.Concept, y.Concept),
		cmp.Compare(x.At, y.At),
	)
}

// missing returns, of each concept, how many occurrences more the source has than the target, in which forbidden terms do not count.
func missing(b api.Termbase, x found) []int {
	out := make([]int, len(b.Concepts))
	for _, o := range x.source {
		out[o.Concept]++
	}
	for _, o := range x.target {
		if !isForbidden(b, o) {
			out[o.Concept]--
		}
	}
	return out
}

// usualTerms returns, of each concept, the first one of the terms that stand most often in the targets and are not forbidden. What it returns of a concept without such an occurrence, nothing asks for.
func usualTerms(b api.Termbase, l []found) []int {
	out := make([]int, len(b.Concepts))
	counts := map[[2]int]int{} // by concept and term
	for _, x := range l {
		for _, o := range x.target {
			if !isForbidden(b, o) {
				counts[[2]int{o.Concept, o.Term}]++
			}
		}
	}
	for concept, c := range b.Concepts {
		for term := range c.Terms {
			if counts[[2]int{concept, term}] > counts[[2]int{concept, out[concept]}] {
				out[concept] = term
			}
		}
	}
	return out
}

package terms

import (
	"cmp"
	"iter"
	"slices"
	"unicode/utf8"

	"truchman/api"
)

// row is lemmas that stand one behind the other; behind those of a shorter row there are empty ones.
type row [api.MaxRow]string

func (r row) length() int {
	if n := slices.Index(r[:], ""); n >= 0 {
		return n
	}
	return len(r)
}

// rows tells the rows of neighbouring lemmas; none has an empty one in it.
func rows(lemmas []string) iter.Seq[row] {
	return func(yield func(row) bool) {
		for at := range lemmas {
			var r row
			for i := 0; i < len(r) && at+i < len(lemmas) && lemmas[at+i] != ""; i++ {
				r[i] = lemmas[at+i]
				if !yield(r) {
					return
				}
			}
		}
	}
}

// Propose returns rows of lemmas that might be terms.
func Propose(b api.Termbase, t api.Tongue, texts [][]string, least int) ([]api.Proposal, api.Errno) {
	f, e := findersOf(b, t)
	if e != api.OK {
		return nil, e
	}
	if least < 1 {
		return nil, api.ErrArg
	}
	if len(texts) > api.MaxSides {
		return nil, api.ErrLimit
	}
	if slices.ContainsFunc(texts, func(words []string) bool { return len(words) > api.MaxWords }) {
		return nil, api.ErrLimit
	}
	counts := map[row]int{}
	for _, words := range texts {
		for r := range rows(f[0].openLemmas(words)) {
			counts[r]++
		}
	}
	return proposals(counts, least), api.OK
}

// openLemmas returns the lemmas of the words that are open; an empty one for each other word.
func (f *finder) openLemmas(words []string) []string {
	var out []string
	for _, w := range words {
		lemma := ""
		if isOfLetters(w) {
			lemma = f.reader.lemma(f.reader.read(w))
		}
		out = append(out, lemma)
	}
	for _, o := range f.find(words) {
		for i := range o.Words {
			out[o.At+i] = ""
		}
	}
	return out
}

// lemma returns the lemma of a word.
func (r *reader) lemma(w *word) string {
	if len(w.simple) == 0 {
		return w.low
	}
	return r.lemmaOf(w.simple[0])
}

// isOfLetters reports whether s is UTF-8, of letters as of docs alone. It says so of the empty string too, whose lemma is empty anyway.
func isOfLetters(s string) bool {
	for _, r := range s {
		if !isLetter(r) {
			return false
		}
	}
	return utf8.ValidString(s)
}

func isLetter(r rune) bool { return 'A' <= r && r <= 'Z' || 'a' <= r && r <= 'z' || r > 127 }

// proposals returns the rows that count at least so many times and are not part of a longer one with the same count.
func proposals(counts map[row]int, least int) []api.Proposal {
	covered := map[row]bool{}
	for r, n := range counts {
		for part := range rows(r[:]) {
			if part != r && counts[part] == n {
				covered[part] = true
			}
		}
	}
	var out []api.Proposal
	for r, n := range counts {
		if n >= least && !covered[r] {
			out = append(out, api.Proposal{Lemmas: slices.Clone(r[:r.length()]), Count: n})
		}
	}
	slices.SortFunc(out, compareProposals)
	return out
}

func compareProposals(x, y api.Proposal) int {
	return cmp.Or(
		cmp.Compare(y.Count, x.Count),
		cmp.Compare(len(y.Lemmas), len(x.Lemmas)),
		slices.Compare(x.Lemmas, y.Lemmas),
	)
}

package terms_test

import (
	"fmt"
	"maps"
	"math"
	"math/rand/v2"
	"slices"
	"strings"
	"testing"

	"truchman/api"
	"truchman/docs"
	"truchman/morph"
	"truchman/terms"
)

// Tests of P7.1 to P7.5 and of P0.1, with many values that a seed makes. What package terms says is held against what the chapter says, worked out in the plainest way.

// world is a termbase and a tongue, with analyses that were asked for.
type world struct {
	b     api.Termbase
	x     api.Tongue
	a     *morph.Analyzer
	known map[string][]api.Analysis
}

// lexicons have few letters, so that words have several analyses.
var lexicons = []string{
	givenLexicon, several, twoFold,
	"vowels a\ntrait f p q\nclass n\nslot 0 - - f=p\nslot 0 - b f=q\nslot 0 - -\nclass m\nslot 0 - -\nslot 0 - b f=p\nentry a n\nentry b n\nentry ab n\nentry a m\nlink n - f=p\n",
	"vowels a\ntrait f p q\nclass n\nslot 0 - - f=p\nslot 0 - a f=q\nentry b n\nentry ba n\nentry c n\nform 1 b\nentry cb n\nform 0 -\nlink n -\nlink n a\n",
	"vowels -\n",
}

func newWorld(b api.Termbase, x api.Tongue) world {
	a, e := morph.New(x.Lexicon)
	if e != api.OK {
		panic(e)
	}
	return world{b, x, a, map[string][]api.Analysis{}}
}

func lowOf(word string) string {
	out := ""
	for i := range len(word) {
		if strings.IndexByte("ABCDEFGHIJKLMNOPQRSTUVWXYZ", word[i]) >= 0 {
			out += string(word[i] + 32)
		} else {
			out += word[i : i+1]
		}
	}
	return out
}

func (w world) analyses(low string) []api.Analysis {
	if _, ok := w.known[low]; !ok && morph.Word(low) {
		w.known[low], _ = w.a.Analyze(low)
	}
	return w.known[low]
}

func (w world) lemma(entry int) string { return w.x.Lexicon.Entries[entry].Lemma }

func (w world) matches(element, word string) bool {
	if element[0] == '=' {
		return element[1:] == word
	}
	low := lowOf(word)
	if !strings.Contains(element, "+") && element == low {
		return true
	}
	for _, x := range w.analyses(low) {
		written := ""
		for _, f := range x.Firsts {
			written += w.lemma(f.Entry) + "+"
		}
		if written+w.lemma(x.Entry) == element {
			return true
		}
	}
	return false
}

func (w world) all(words []string) []api.Occurrence {
	var out []api.Occurrence
	for at := range words {
		for concept, c := range w.b.Concepts {
			for number, x := range c.Terms {
				n := len(x.Elements)
				good := x.Lang == w.x.Name && at+n <= len(words)
				for i := 0; good && i < n; i++ {
					good = w.matches(x.Elements[i], words[at+i])
				}
				if good {
					out = append(out, api.Occurrence{At: at, Words: n, Concept: concept, Term: number})
				}
			}
		}
	}
	return out
}

func (w world) forbidden(o api.Occurrence) bool {
	return w.b.Concepts[o.Concept].Terms[o.Term].Status == api.TsForbidden
}

func overlap(x, y api.Occurrence) bool { return x.At < y.At+y.Words && y.At < x.At+x.Words }

// rank is by what Find chooses: the least one first.
func (w world) rank(o api.Occurrence) []int {
	status := 0
	if w.forbidden(o) {
		status = 1
	}
	return []int{-o.Words, o.At, status, o.Concept, o.Term}
}

func (w world) find(words []string) []api.Occurrence {
	var out []api.Occurrence
	left := w.all(words)
	for len(left) > 0 {
		best := slices.MinFunc(left, func(x, y api.Occurrence) int { return slices.Compare(w.rank(x), w.rank(y)) })
		out = append(out, best)
		left = slices.DeleteFunc(left, func(o api.Occurrence) bool { return overlap(o, best) })
	}
	slices.SortFunc(out, func(x, y api.Occurrence) int { return x.At - y.At })
	return out
}

func (w world) suggest(words []string, o api.Occurrence) [][]string {
	c := w.b.Concepts[o.Concept]
	old := c.Terms[o.Term].Elements
	one := func(l []string) bool { return len(l) == 1 && morph.Plain(l[0]) }
	var out [][]string
	add := func(row ...string) {
		if f := words[o.At][0]; 'A' <= f && f <= 'Z' && 'a' <= row[0][0] && row[0][0] <= 'z' {
			row[0] = strings.ToUpper(row[0][:1]) + row[0][1:]
		}
		if !slices.ContainsFunc(out, func(x []string) bool { return slices.Equal(x, row) }) {
			out = append(out, row)
		}
	}
	for _, x := range c.Terms {
		if x.Lang != w.x.Name || x.Status != api.TsPreferred {
			continue
		}
		if !one(x.Elements) || !one(old) {
			var row []string
			for _, s := range x.Elements {
				if s[0] == '=' {
					row = append(row, s[1:])
				} else {
					row = append(row, strings.ReplaceAll(s, "+", ""))
				}
			}
			add(row...)
			continue
		}
		none := true
		for _, y := range w.analyses(lowOf(words[o.At])) {
			if len(y.Firsts) > 0 || w.lemma(y.Entry) != old[0] {
				continue
			}
			feats, _ := morph.Feats(w.x.Lexicon, y.Entry, y.Slot)
			forms, _ := morph.Generate(w.x.Lexicon, x.Elements[0], feats)
			for _, form := range forms {
				none = false
				add(form)
			}
		}
		if none {
			add(x.Elements[0])
		}
	}
	return out
}

func (w world) propose(texts [][]string, least int) []api.Proposal {
	counts := map[string]int{}
	for _, words := range texts {
		lemmas := make([]string, len(words))
		for i, word := range words {
			taken := slices.ContainsFunc(w.find(words), func(o api.Occurrence) bool { return o.At <= i && i < o.At+o.Words })
			pieces := []api.Piece{{Kind: api.PiText, Text: word}}
			one, e := docs.Words(pieces)
			if e != api.OK || len(one) != 1 || one[0] != word || taken || strings.ContainsAny(word, "0123456789!\"#$%&'()*+,-./:;<=>?@[\\]^_`{|}~") {
				continue
			}
			lemmas[i] = lowOf(word)
			for _, x := range w.analyses(lemmas[i]) {
				if len(x.Firsts) == 0 {
					lemmas[i] = w.lemma(x.Entry)
					break
				}
			}
		}
		for i := range lemmas {
			for j := i + 1; j <= len(lemmas) && j <= i+3 && !slices.Contains(lemmas[i:j], ""); j++ {
				counts[strings.Join(lemmas[i:j], " ")]++
			}
		}
	}
	var out []api.Proposal
	for row, n := range counts {
		good := n >= least
		for longer, m := range counts {
			if longer != row && m == n && strings.Contains(" "+longer+" ", " "+row+" ") {
				good = false
			}
		}
		if good {
			out = append(out, api.Proposal{Lemmas: strings.Split(row, " "), Count: n})
		}
	}
	slices.SortFunc(out, func(x, y api.Proposal) int {
		if x.Count != y.Count {
			return y.Count - x.Count
		}
		if len(x.Lemmas) != len(y.Lemmas) {
			return len(y.Lemmas) - len(x.Lemmas)
		}
		return slices.Compare(x.Lemmas, y.Lemmas)
	})
	return out
}

// issues works out the issues of pairs of which both sides are bare words.
func issuesOf(from, to world, domain string, sources, targets [][]string) []api.Issue {
	counts := func(o api.Occurrence, concept int) bool {
		c := from.b.Concepts[concept]
		return o.Concept == concept && (domain == "" || c.Domain == domain)
	}
	usual := map[int]int{}
	for concept, c := range from.b.Concepts {
		most := 0
		for term := range c.Terms {
			n := 0
			for _, words := range targets {
				for _, o := range to.find(words) {
					if counts(o, concept) && o.Term == term && !to.forbidden(o) {
						n++
					}
				}
			}
			if n > most {
				usual[concept], most = term, n
			}
		}
	}
	var out []api.Issue
	for pair := range sources {
		var missing, added, wrong, unlike []api.Issue
		source, target := from.find(sources[pair]), to.find(targets[pair])
		for concept := range from.b.Concepts {
			s, u := 0, 0
			for _, o := range source {
				if counts(o, concept) {
					s++
				}
			}
			for _, o := range target {
				x := api.Issue{Pair: pair, Concept: concept, Term: o.Term, At: o.At}
				switch {
				case !counts(o, concept):
				case to.forbidden(o):
					x.Kind = api.IsForbidden
					wrong = append(wrong, x)
				default:
					u++
					x.Kind = api.IsUnlike
					if o.Term != usual[concept] {
						unlike = append(unlike, x)
					}
				}
			}
			if s > u {
				missing = append(missing, api.Issue{Pair: pair, Kind: api.IsMissing, Concept: concept, Term: -1, At: -1})
			}
			if u > s {
				added = append(added, api.Issue{Pair: pair, Kind: api.IsAdded, Concept: concept, Term: -1, At: -1})
			}
		}
		out = slices.Concat(out, missing, added, wrong, unlike)
	}
	return out
}

// anyWord makes a word that a lexicon may have, or not.
func (w world) anyWord(r *rand.Rand, vocabulary []string) string {
	word := pick(r, vocabulary...)
	switch r.IntN(8) {
	case 0:
		return strings.ToUpper(word)
	case 1:
		return strings.ToUpper(word[:1]) + word[1:]
	case 2:
		return word + pick(r, vocabulary...)
	}
	return word
}

// vocabularyOf returns words that are forms, and some others.
func vocabularyOf(l api.Lexicon) []string {
	a, _ := morph.New(l)
	out := []string{"x", "y", ".", "a", "net", "é"}
	return append(out, slices.DeleteFunc(a.Words(), func(s string) bool { return len(s) > 6 })...)
}

func anyElement(r *rand.Rand, l api.Lexicon, vocabulary []string) string {
	lemma := func() string {
		if len(l.Entries) == 0 || r.IntN(8) == 0 {
			return pick(r, "x", "y", "a")
		}
		return pick(r, l.Entries...).Lemma
	}
	switch r.IntN(8) {
	case 0, 1:
		return "=" + pick(r, vocabulary...)
	case 2:
		return lemma() + "+" + lemma()
	case 3:
		return lemma() + "+" + lemma() + "+" + lemma()
	}
	return lemma()
}

// anyBase makes a valid termbase with terms of a lexicon's words.
func anyBase(r *rand.Rand, l api.Lexicon) api.Termbase {
	vocabulary := vocabularyOf(l)
	b := api.Termbase{Domains: []string{"d", "e"}}
	for i := range r.IntN(5) {
		c := api.Concept{Name: numbered(i), Domain: pick(r, "d", "d", "e")}
		for range r.IntN(5) {
			x := api.TermEntry{Lang: pick(r, "en", "en", "en", "de"), Status: api.TermStatus(1 + r.IntN(3))}
			for range pick(r, 1, 1, 1, 2, 2, 3, 4) {
				x.Elements = append(x.Elements, anyElement(r, l, vocabulary))
			}
			c.Terms = append(c.Terms, x)
		}
		more := b
		more.Concepts = append(slices.Clone(b.Concepts), c)
		if terms.Check(more) == api.OK {
			b = more
		}
	}
	return b
}

// anyWorld makes a world, and a maker of texts for it.
func anyWorld(r *rand.Rand) (world, func(n int) []string) {
	x := tongue("en", pick(r, lexicons...))
	w := newWorld(anyBase(r, x.Lexicon), x)
	return w, func(n int) []string { return w.anyText(r, n) }
}

// anyText makes up to n words, in which terms of the termbase may stand.
func (w world) anyText(r *rand.Rand, n int) []string {
	vocabulary := vocabularyOf(w.x.Lexicon)
	var out []string
	for range r.IntN(n + 1) {
		out = append(out, w.anyWord(r, vocabulary))
		if len(w.b.Concepts) > 0 && r.IntN(2) == 0 {
			if c := pick(r, w.b.Concepts...); len(c.Terms) > 0 {
				for _, s := range pick(r, c.Terms...).Elements {
					out = append(out, strings.ReplaceAll(strings.TrimPrefix(s, "="), "+", ""))
				}
			}
		}
	}
	return out
}

// P7.1, P7.2, P7.4: matches and occurrences.
func TestOccurrencesOfWorlds(t *testing.T) {
	r := dice()
	seen := map[string]int{}
	for range 20 * rounds {
		w, text := anyWorld(r)
		words := text(8)
		every, chosen := w.all(words), w.find(words)
		if got := all(t, w.b, w.x, words); !slices.Equal(got, every) {
			t.Fatalf("%v: All(%q): %s, want %s", w.b, words, shown(got), shown(every))
		}
		got := found(t, w.b, w.x, words)
		if !slices.Equal(got, chosen) {
			t.Fatalf("%v: Find(%q): %s, want %s", w.b, words, shown(got), shown(chosen))
		}
		for i, o := range got {
			if !slices.Contains(every, o) || i > 0 && got[i-1].At+got[i-1].Words > o.At {
				t.Fatalf("%v: Find(%q): %s", w.b, words, shown(got))
			}
		}
		for _, o := range every {
			if !slices.ContainsFunc(got, func(x api.Occurrence) bool { return overlap(x, o) && x.Words >= o.Words }) {
				t.Fatalf("%v: Find(%q): %s has nothing for %v", w.b, words, shown(got), o)
			}
			seen[fmt.Sprint(o.Words, " words")]++
		}
		if len(every) > len(chosen) {
			seen["left out"]++
		}
		if len(words) > 0 {
			element, word := anyElement(r, w.x.Lexicon, words), pick(r, words...)
			if terms.Check(concepts("en p "+element)) == api.OK {
				ok, e := terms.Matches(w.x, element, word)
				if want := w.matches(element, word); ok != want || e != api.OK {
					t.Fatalf("%v: Matches(%s, %s): %v, error %d, want %v", w.x, element, word, ok, e, want)
				}
				seen[fmt.Sprint("match ", ok)]++
			}
		}
	}
	for _, x := range []string{"1 words", "2 words", "3 words", "4 words", "left out", "match true", "match false"} {
		if seen[x] < rounds/10 {
			t.Errorf("too little was seen: %v", seen)
		}
	}
}

// P7.4: each form that morph generates for the lemma of a term of one element matches it.
func TestFormsMatch(t *testing.T) {
	for _, text := range lexicons {
		x := tongue("en", text)
		for _, n := range x.Lexicon.Entries {
			b := concepts("en p " + n.Lemma)
			forms, e := morph.Generate(x.Lexicon, n.Lemma, nil)
			if e != api.OK {
				t.Fatal(e)
			}
			for _, form := range forms {
				if ok, e := terms.Matches(x, n.Lemma, form); !ok || e != api.OK {
					t.Errorf("%s, %s: %v, error %d", n.Lemma, form, ok, e)
				}
				if got := shown(found(t, b, x, []string{".", form})); got != "1+1:0.0" {
					t.Errorf("%s in %s: %s", n.Lemma, form, got)
				}
			}
		}
	}
}

// P7.2, P7.5: what is suggested.
func TestSuggestionsOfWorlds(t *testing.T) {
	r := dice()
	seen := map[string]int{}
	for range 20 * rounds {
		w, text := anyWorld(r)
		words := text(5)
		for _, o := range w.all(words) {
			want := w.suggest(words, o)
			got, e := terms.Suggest(w.b, w.x, words, o)
			if want == nil && e == api.ErrNone && got == nil {
				seen["none"]++
				continue
			}
			if e != api.OK || rowsOf(got) != rowsOf(want) || len(got) != len(want) {
				t.Fatalf("%v: Suggest(%q, %v): %q, error %d, want %q", w.b, words, o, got, e, want)
			}
			seen[fmt.Sprint(min(3, len(got)), " rows")]++
			if w.generated(t, words, o, got) {
				seen["generated"]++
			}
		}
	}
	for _, x := range []string{"none", "1 rows", "2 rows", "3 rows", "generated"} {
		if seen[x] < rounds/10 {
			t.Errorf("too little was seen: %v", seen)
		}
	}
}

// generated holds what is suggested in the place of one lexical word against the features of that. It returns whether it did.
func (w world) generated(t *testing.T, words []string, o api.Occurrence, rows [][]string) bool {
	t.Helper()
	c := w.b.Concepts[o.Concept]
	old := c.Terms[o.Term].Elements[0]
	if o.Words > 1 || !morph.Plain(old) {
		return false
	}
	preferred := map[string]bool{}
	for _, x := range c.Terms {
		if x.Lang != w.x.Name || x.Status != api.TsPreferred {
			continue
		}
		if len(x.Elements) > 1 || !morph.Plain(x.Elements[0]) {
			return false // a row need not have been generated
		}
		preferred[x.Elements[0]] = true
	}
	did := false
	for _, row := range rows {
		low := lowOf(row[0])
		if preferred[low] {
			continue // it may be the lemma, with no form
		}
		good := false
		for _, y := range w.analyses(low) {
			has, _ := morph.Feats(w.x.Lexicon, y.Entry, y.Slot)
			for _, z := range w.analyses(lowOf(words[o.At])) {
				feats, _ := morph.Feats(w.x.Lexicon, z.Entry, z.Slot)
				good = good || len(y.Firsts) == 0 && len(z.Firsts) == 0 && preferred[w.lemma(y.Entry)] && w.lemma(z.Entry) == old && morph.Subsumes(feats, has)
			}
		}
		if !good {
			t.Fatalf("%v: %q, %v: %q has other features", w.b, words, o, row)
		}
		did = true
	}
	return did
}

// P7.2: proposals.
func TestProposalsOfWorlds(t *testing.T) {
	r := dice()
	several := 0
	for range 8 * rounds {
		w, text := anyWorld(r)
		var l [][]string
		for range r.IntN(4) {
			l = append(l, text(8))
		}
		if len(l) > 0 && r.IntN(2) == 0 {
			l = append(l, l[0])
		}
		least := 1 + r.IntN(3)
		want := w.propose(l, least)
		got, e := terms.Propose(w.b, w.x, l, least)
		if e != api.OK || proposed(got) != proposed(want) || len(got) != len(want) {
			t.Fatalf("%v: Propose(%q, %d): %s, error %d, want %s", w.b, l, least, proposed(got), e, proposed(want))
		}
		if len(got) > 3 {
			several++
		}
	}
	if several < rounds {
		t.Errorf("just %d had several proposals", several)
	}
}

// bare leaves out the words that docs does not know.
func bare(words []string) []string {
	return slices.DeleteFunc(words, func(w string) bool { return docs.CheckWords([]string{w}) != api.OK })
}

func asPieces(t *testing.T, words []string) []api.Piece {
	t.Helper()
	l, e := docs.FromWords(words)
	if e != api.OK {
		t.Fatalf("%q: error %d", words, e)
	}
	return l
}

// P7.2, P7.5: issues.
func TestIssuesOfWorlds(t *testing.T) {
	r := dice()
	seen := map[api.IssueKind]int{}
	for range 10 * rounds {
		from, source := anyWorld(r)
		name := pick(r, "en", "de")
		to := newWorld(from.b, tongue(name, pick(r, lexicons...)))
		if r.IntN(2) == 0 {
			to.x.Lexicon = from.x.Lexicon
			to = newWorld(from.b, to.x)
		}
		var sources, targets [][]string
		var l []api.Pair
		for range r.IntN(5) {
			a, b := bare(source(4)), bare(source(4))
			sources, targets = append(sources, a), append(targets, b)
			l = append(l, api.Pair{Source: asPieces(t, a), Target: asPieces(t, b)})
		}
		domain := pick(r, "", "", "d", "e")
		want := issuesOf(from, to, domain, sources, targets)
		got, e := terms.Issues(from.b, from.x, to.x, domain, l)
		if e != api.OK || !slices.Equal(got, want) {
			t.Fatalf("%v, domain %q, %q to %q: %s, error %d, want %s", from.b, domain, sources, targets, issued(got), e, issued(want))
		}
		for _, x := range got {
			seen[x.Kind]++
		}
	}
	for kind := api.IsMissing; kind <= api.IsUnlike; kind++ {
		if seen[kind] < rounds/10 {
			t.Errorf("too little was seen: %v", seen)
		}
	}
}

// P7.5: a document that is its own translation has nothing missing and nothing added, unless a forbidden term stands there, which is told.
func TestIssuesOfItself(t *testing.T) {
	r := dice()
	clean, not := 0, 0
	for range 10 * rounds {
		w, text := anyWorld(r)
		var l []api.Pair
		forbidden := map[int]bool{}
		for i := range 1 + r.IntN(4) {
			words := bare(text(4))
			for _, o := range found(t, w.b, w.x, words) {
				forbidden[i] = forbidden[i] || w.forbidden(o)
			}
			p := asPieces(t, words)
			l = append(l, api.Pair{Source: p, Target: slices.Clone(p)})
		}
		got, e := terms.Issues(w.b, w.x, w.x, "", l)
		if e != api.OK {
			t.Fatal(e)
		}
		for i := range l {
			kinds := map[api.IssueKind]bool{}
			for _, x := range got {
				if x.Pair == i {
					kinds[x.Kind] = true
				}
			}
			if kinds[api.IsForbidden] != forbidden[i] || kinds[api.IsAdded] || kinds[api.IsMissing] != forbidden[i] {
				t.Fatalf("%v: %v: %s", w.b, l, issued(got))
			}
			if forbidden[i] {
				not++
			} else {
				clean++
			}
		}
	}
	if min(clean, not) < rounds {
		t.Errorf("%d without and %d with forbidden terms", clean, not)
	}
}

// P7.3: the text of a termbase is parsed as that termbase.
func TestTextThereAndBack(t *testing.T) {
	r := dice()
	for range 10 * rounds {
		b := anyBase(r, lexicon(pick(r, lexicons...)))
		if r.IntN(10) == 0 {
			b.Domains = append(b.Domains, "unused")
		}
		text := printed(t, b)
		got := parsed(t, text)
		if !same(got, b) || !terms.Same(got, b) || printed(t, got) != text {
			t.Fatalf("%v became %v", b, got)
		}
	}
}

// P7.1, P7.3: a text that is parsed is printed as it was; one that is not has the number of a line just if it is no form.
func TestTextBackAndThere(t *testing.T) {
	r := dice()
	codes := map[api.Errno]int{}
	for range 30 * rounds {
		lines := strings.Split(soundText, "\n")
		for range 1 + r.IntN(3) {
			i := r.IntN(len(lines))
			words := strings.Split(lines[i], " ")
			j := r.IntN(len(words))
			switch r.IntN(5) {
			case 0:
				lines = slices.Delete(lines, i, i+1)
			case 1:
				lines = slices.Insert(lines, i, pick(r, lines...))
			case 2:
				words[j] = pick(r, "it", "law", "en", "preferred", "forbidden", "a", "=a", "a+b", "1", "", "term", "concept", "domain")
				lines[i] = strings.Join(words, " ")
			case 3:
				lines[i] = strings.Join(slices.Delete(words, j, j+1), " ")
			case 4:
				lines[i] = strings.Join(slices.Insert(words, j, pick(r, "a", "it", "")), " ")
			}
			if len(lines) == 0 {
				break
			}
		}
		text := strings.Join(lines, "\n")
		b, n, e := terms.Parse(text)
		codes[e]++
		if e == api.OK {
			if got := printed(t, b); got != text && got != text+"\n" || n != 0 {
				t.Fatalf("%q became %q, line %d", text, got, n)
			}
		} else if !same(b, api.Termbase{}) || n < 0 || n > len(lines) || n > 0 && e != api.ErrForm {
			t.Fatalf("%q: %v, line %d, error %d", text, b, n, e)
		}
	}
	for _, e := range []api.Errno{api.OK, api.ErrName, api.ErrTwice, api.ErrNone, api.ErrForm} {
		if codes[e] < rounds/30 {
			t.Errorf("too little was seen: %v", codes)
		}
	}
}

// R4, R10: results are new memory, arguments stay as they are, and equal calls have equal results.
func TestMemory(t *testing.T) {
	r := dice()
	for range 2 * rounds {
		w, text := anyWorld(r)
		l := [][]string{bare(text(6)), bare(text(6))}
		p := []api.Pair{{Source: asPieces(t, l[0]), Target: asPieces(t, l[1])}, {Source: asPieces(t, l[1]), Target: asPieces(t, l[0])}}
		o := api.Occurrence{}
		if every := w.all(l[0]); len(every) > 0 {
			o = pick(r, every...)
		}
		before := fmt.Sprint(w.b, w.x, l, p)
		calls := map[string]func() string{
			"All":     func() string { return spoiled(all(t, w.b, w.x, l[0])) },
			"Find":    func() string { return spoiled(found(t, w.b, w.x, l[0])) },
			"Issues":  func() string { x, e := terms.Issues(w.b, w.x, w.x, "", p); return fmt.Sprint(spoiled(x), e) },
			"Suggest": func() string { x, e := terms.Suggest(w.b, w.x, l[0], o); return fmt.Sprint(spoiledRows(t, x), e) },
			"Propose": func() string {
				x, e := terms.Propose(w.b, w.x, l, 1)
				var rows [][]string
				for _, y := range x {
					rows = append(rows, y.Lemmas)
				}
				return fmt.Sprint(proposed(x), spoiledRows(t, rows), spoiled(x), e)
			},
			"Parse": func() string {
				b, _, e := terms.Parse(soundText)
				text := fmt.Sprint(b, e)
				var rows [][]string
				for _, c := range b.Concepts {
					for _, x := range c.Terms {
						rows = append(rows, x.Elements)
					}
				}
				spoiledRows(t, append(rows, b.Domains))
				for _, c := range b.Concepts {
					spoiled(c.Terms)
				}
				return text
			},
		}
		for _, name := range slices.Sorted(maps.Keys(calls)) {
			if one, again := calls[name](), calls[name](); one != again {
				t.Fatalf("%s: %s, then %s", name, one, again)
			}
		}
		if after := fmt.Sprint(w.b, w.x, l, p); before != after {
			t.Fatalf("%s, but %s", after, before)
		}
	}
}

// spoiled writes a list, and then changes all of its memory.
func spoiled[T any](l []T) string {
	text := fmt.Sprint(l)
	l = l[:cap(l)]
	clear(l)
	return text
}

// spoiledRows writes rows, and then changes all of their memory; no row may lose by what is done to another one.
func spoiledRows(t *testing.T, rows [][]string) string {
	t.Helper()
	text := fmt.Sprint(rows)
	for i, row := range rows {
		rest := fmt.Sprint(rows[i+1:])
		row = row[:cap(row)]
		for j := range row {
			row[j] = "?"
		}
		if got := fmt.Sprint(rows[i+1:]); got != rest {
			t.Fatalf("%s, but %s", got, rest)
		}
	}
	return text
}

// P0.1: any arguments are answered, with an error or a result.
func TestAnyArguments(t *testing.T) {
	r := dice()
	number := func() int { return pick(r, math.MinInt, -1, 0, 0, 1, 1, 2, 255, math.MaxInt) }
	text := func() string {
		return pick(r, "", "a", "a", "net", "=a", "=", "a+b", "en", "en", "d", " ", "\xff", "<b>", "{n}", "Net", strings.Repeat("a", 25), "+", "é")
	}
	list := func() []string { return some(r, pick(r, 2, 4, 6), text) }
	piece := func() api.Piece {
		return api.Piece{Kind: api.PieceKind(r.IntN(7)), Text: text(), Carried: r.IntN(9) == 0}
	}
	pair := func() api.Pair { return api.Pair{Source: some(r, 2, piece), Target: some(r, 2, piece)} }
	codes := map[api.Errno]int{}
	for range 30 * rounds {
		b := concepts("en p net; en a =a; en f a")
		if r.IntN(2) == 0 {
			entry := func() api.TermEntry {
				return api.TermEntry{Lang: text(), Status: api.TermStatus(number()), Elements: list()}
			}
			b.Domains = append(b.Domains, list()...)
			b.Concepts = append(b.Concepts, api.Concept{Name: text(), Domain: text(), Terms: some(r, 3, entry)})
		}
		x, y := tongue(pick(r, "en", "en", text()), pick(r, lexicons...)), tongue(pick(r, "en", "de", text()), pick(r, lexicons...))
		if r.IntN(8) == 0 {
			y = crooked(y.Name)
		}
		check := func(name string, e api.Errno, zero bool) {
			t.Helper()
			codes[e]++
			if e != api.OK && !zero {
				t.Fatalf("%s: %v: error %d, but a result", name, b, e)
			}
		}
		check("Check", terms.Check(b), true)
		s, e := terms.Print(b)
		check("Print", e, s == "")
		back, line, e := terms.Parse(strings.Join(append(list(), s), pick(r, " ", "\n")))
		check("Parse", e, same(back, api.Termbase{}))
		if e == api.OK && line != 0 {
			t.Fatalf("line %d without an error", line)
		}
		terms.Same(b, back)
		ok, e := terms.Matches(y, text(), text())
		check("Matches", e, !ok)
		words := list()
		every, e := terms.All(b, x, words)
		check("All", e, every == nil)
		chosen, e := terms.Find(b, y, words)
		check("Find", e, chosen == nil)
		o := api.Occurrence{At: number(), Words: number(), Concept: number(), Term: number()}
		if len(every) > 0 && r.IntN(2) == 0 {
			o = pick(r, every...)
		}
		rows, e := terms.Suggest(b, x, words, o)
		check("Suggest", e, rows == nil)
		issues, e := terms.Issues(b, x, y, pick(r, "", "", "d", text()), some(r, pick(r, 2, 2, 300), pair))
		check("Issues", e, issues == nil)
		proposals, e := terms.Propose(b, y, some(r, pick(r, 2, 2, 300), list), number())
		check("Propose", e, proposals == nil)
	}
	for _, e := range []api.Errno{api.OK, api.ErrArg, api.ErrLimit, api.ErrForm, api.ErrName, api.ErrTwice, api.ErrNone} {
		if codes[e] == 0 {
			t.Errorf("error %d was not seen: %v", e, codes)
		}
	}
}

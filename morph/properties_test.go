package morph_test

import (
	"math/rand/v2"
	"slices"
	"strings"
	"testing"

	"truchman/api"
	"truchman/morph"
)

// Tests of P2.5 to P2.9, P0.1 and P0.2, with many values that a seed makes.

const rounds = 300

func dice() *rand.Rand { return rand.New(rand.NewPCG(1, 2)) }

func pick[T any](r *rand.Rand, l ...T) T { return l[r.IntN(len(l))] }

// some makes up to n values.
func some[T any](r *rand.Rand, n int, one func() T) []T {
	var out []T
	for range r.IntN(n + 1) {
		out = append(out, one())
	}
	return out
}

// spelled makes up to n symbols.
func spelled(r *rand.Rand, symbols string, n int) string {
	return string(some(r, n, func() byte { return symbols[r.IntN(len(symbols))] }))
}

// spelledOut makes 1 to n symbols.
func spelledOut(r *rand.Rand, symbols string, n int) string {
	return spelled(r, symbols, n-1) + pick(r, strings.Split(symbols, "")...)
}

func anyBundle(r *rand.Rand) []api.Feat {
	return b(pick(r, "", "", "case=nom", "case=gen", "num=sg", "num=pl", "case=nom num=sg", "case=gen num=pl"))
}

// anyLexicon makes a valid lexicon of few letters, so that many words have several analyses.
func anyLexicon(t *testing.T, r *rand.Rand) api.Lexicon {
	t.Helper()
	for range 1000 {
		l := api.Lexicon{
			Vowels: pick(r, "", "a", "ab"),
			Traits: []api.Trait{{Name: "num", Values: []string{"sg", "pl"}}, {Name: "case", Values: []string{"nom", "gen"}}},
		}
		for _, name := range []string{"n", "v"} {
			slots := some(r, 2, func() api.Slot {
				return api.Slot{Cut: r.IntN(3), Pre: spelled(r, "ab", 1), Add: spelled(r, "abc", 2), Feats: anyBundle(r)}
			})
			l.Classes = append(l.Classes, api.Class{Name: name, Slots: append(slots, api.Slot{})})
		}
		l.Entries = some(r, 5, func() api.Entry {
			irregular := func() api.Irregular { return api.Irregular{Slot: r.IntN(2), Word: spelled(r, "abc", 2)} }
			return api.Entry{Lemma: spelledOut(r, "abc", 2), Class: pick(r, "n", "v"), Feats: anyBundle(r), Forms: some(r, 1, irregular)}
		})
		l.Spells = some(r, 3, func() api.Spell {
			return api.Spell{From: spelledOut(r, "abc+", 2), To: spelled(r, "abc+", 2), Left: spelled(r, "ab+#VC", 2), Right: spelled(r, "ab+#VC", 2)}
		})
		l.Links = some(r, 3, func() api.Link {
			return api.Link{Class: pick(r, "n", "v"), Glue: spelled(r, "ac", 1), Feats: anyBundle(r)}
		})
		if morph.Check(l) == api.OK {
			return l
		}
	}
	t.Fatal("no lexicon is valid")
	return api.Lexicon{}
}

// spelledBy applies a spelling rule to a string between its ends.
func spelledBy(r api.Spell, vowels, s string) string {
	fits := func(pattern, found string) bool {
		for i := range len(pattern) {
			isLetter := found[i] != '+' && found[i] != '#'
			isVowel := strings.Contains(vowels, found[i:i+1])
			if !(pattern[i] == found[i] || pattern[i] == 'V' && isLetter && isVowel || pattern[i] == 'C' && isLetter && !isVowel) {
				return false
			}
		}
		return true
	}
	whole := "#" + s + "#"
	var out strings.Builder
	for at := 1; at < len(whole)-1; {
		end := at + len(r.From)
		begin, far := at-len(r.Left), end+len(r.Right)
		if begin >= 0 && far <= len(whole) && whole[at:end] == r.From && fits(r.Left, whole[begin:at]) && fits(r.Right, whole[end:far]) {
			out.WriteString(r.To)
			at = end
			continue
		}
		out.WriteByte(whole[at])
		at++
	}
	return out.String()
}

// P2.5: Spell by another way to apply rules.
func TestSpellAgain(t *testing.T) {
	r := dice()
	changed := 0
	for range 100 * rounds {
		l := api.Lexicon{Vowels: pick(r, "", "a", "ab")}
		rule := api.Spell{From: spelledOut(r, "abc+", 2), To: spelled(r, "abc+", 2), Left: spelled(r, "abc+#VC", 3), Right: spelled(r, "abc+#VC", 3)}
		l.Spells = []api.Spell{rule}
		s := spelled(r, "abc+", 9)
		want := spelledBy(rule, l.Vowels, s)
		if got, e := morph.Spell(l, 0, s); e != api.OK || got != want {
			t.Fatalf("%v of %q: %q, error %d, want %q", rule, s, got, e, want)
		}
		if want != s {
			changed++
		}
	}
	if changed < rounds {
		t.Errorf("just %d strings were changed", changed)
	}
}

// P2.5: Steps and Form by the rules, and Forms by Form.
func TestFormsAgain(t *testing.T) {
	r := dice()
	for range 5 * rounds {
		l := anyLexicon(t, r)
		for entry, n := range l.Entries {
			forms, e := morph.Forms(l, entry)
			if e != api.OK {
				t.Fatal(l, e)
			}
			for slot := range forms {
				form, e := morph.Form(l, entry, slot)
				if form != forms[slot] || (form == "") != (e == api.ErrNone) || form != "" && e != api.OK {
					t.Fatalf("%v: entry %d at %d: %q, error %d, forms %q", l, entry, slot, form, e, forms)
				}
				steps, e := morph.Steps(l, entry, slot)
				if e != api.OK && e != api.ErrNone || e == api.OK && len(steps) != len(l.Spells)+1 {
					t.Fatalf("%v: entry %d at %d: %q, error %d", l, entry, slot, steps, e)
				}
				for i := 1; i < len(steps); i++ {
					if steps[i] != spelledBy(l.Spells[i-1], l.Vowels, steps[i-1]) {
						t.Fatalf("%v: entry %d at %d: %q", l, entry, slot, steps)
					}
				}
				want := ""
				if e == api.OK {
					want = strings.ReplaceAll(steps[len(steps)-1], "+", "")
				}
				for _, f := range n.Forms {
					if f.Slot == slot {
						want = f.Word
					}
				}
				if form != want {
					t.Fatalf("%v: entry %d at %d: %q, want %q", l, entry, slot, form, want)
				}
			}
		}
	}
}

// everyAnalysis returns all analyses of a lexicon with up to MaxFirsts first parts, in order, whether they have a word or not.
func everyAnalysis(l api.Lexicon) []api.Analysis {
	var ends []api.Analysis
	var firsts []api.First
	for entry := range l.Entries {
		for slot := range 3 {
			ends = append(ends, api.Analysis{Entry: entry, Slot: slot})
			for link := range l.Links {
				firsts = append(firsts, api.First{Entry: entry, Slot: slot, Link: link})
			}
		}
	}
	rows := [][]api.First{nil}
	var out []api.Analysis
	for range api.MaxFirsts + 1 {
		var longer [][]api.First
		for _, row := range rows {
			for _, x := range ends {
				x.Firsts = row
				out = append(out, x)
			}
			for _, f := range firsts {
				longer = append(longer, append(slices.Clone(row), f))
			}
		}
		rows = longer
	}
	return out
}

// P2.6, P2.9, P0.2: Analyze returns, in order, just the analyses of which Build returns the word; so does an analyzer.
func TestAnalyzeByBuild(t *testing.T) {
	r := dice()
	words := 0
	for range rounds {
		l := anyLexicon(t, r)
		byWord := map[string][]api.Analysis{}
		for _, x := range everyAnalysis(l) {
			if word, e := morph.Build(l, x); e == api.OK {
				byWord[word] = append(byWord[word], x)
			} else if e != api.ErrNone || word != "" {
				t.Fatalf("%v: Build(%v): %q, error %d", l, x, word, e)
			}
		}
		for range 100 { // words that may have no analysis
			word := spelledOut(r, "abcd", 6)
			byWord[word] = append(byWord[word], nil...)
		}
		a := analyzer(t, l)
		for word, want := range byWord {
			got, e := morph.Analyze(l, word)
			if e != api.OK || !sameAnalyses(got, want) {
				t.Fatalf("%v: %s: %v, error %d, want %v", l, word, got, e, want)
			}
			if got, e := a.Analyze(word); e != api.OK || !sameAnalyses(got, want) {
				t.Fatalf("%v: %s by an analyzer: %v, error %d, want %v", l, word, got, e, want)
			}
			if len(want) > 1 {
				words++
			}
		}
	}
	if words < rounds {
		t.Errorf("just %d words had several analyses", words)
	}
}

// wordByParts makes the word of an analysis of its forms and glues; nothing if there is none.
func wordByParts(l api.Lexicon, x api.Analysis) string {
	word := ""
	for _, f := range x.Firsts {
		form, _ := morph.Form(l, f.Entry, f.Slot)
		feats, _ := morph.Feats(l, f.Entry, f.Slot)
		k := l.Links[f.Link]
		if form == "" || k.Class != l.Entries[f.Entry].Class || !morph.Subsumes(k.Feats, feats) {
			return ""
		}
		word += form + k.Glue
	}
	form, _ := morph.Form(l, x.Entry, x.Slot)
	if form == "" || len(word+form) > api.MaxWord {
		return ""
	}
	return word + form
}

// P2.6: Build joins forms and glues.
func TestBuildByParts(t *testing.T) {
	r := dice()
	built := 0
	for range 20 * rounds {
		l := anyLexicon(t, r)
		if len(l.Entries) == 0 || len(l.Links) == 0 {
			continue
		}
		x := parts(r.IntN(len(l.Entries)), r.IntN(3), some(r, 2, func() api.First {
			return api.First{Entry: r.IntN(len(l.Entries)), Slot: r.IntN(3), Link: r.IntN(len(l.Links))}
		})...)
		want := wordByParts(l, x)
		if got, e := morph.Build(l, x); got != want || (e == api.OK) != (want != "") {
			t.Fatalf("%v: Build(%v): %q, error %d, want %q", l, x, got, e, want)
		}
		if want != "" {
			built++
		}
	}
	if built < rounds {
		t.Errorf("just %d words were built", built)
	}
}

// P2.7, P2.9: what Generate returns is just the forms of the lemma with the features, and each has such an analysis.
func TestGenerateByForms(t *testing.T) {
	r := dice()
	generated := 0
	for range 5 * rounds {
		l := anyLexicon(t, r)
		lemma, feats := spelled(r, "abc", 3), anyBundle(r)
		if len(l.Entries) > 0 && r.IntN(4) > 0 {
			lemma = pick(r, l.Entries...).Lemma
		}
		known := false
		var want []string
		for entry, n := range l.Entries {
			known = known || n.Lemma == lemma
			forms, _ := morph.Forms(l, entry)
			for slot, form := range forms {
				has, _ := morph.Feats(l, entry, slot)
				if n.Lemma == lemma && form != "" && morph.Subsumes(feats, has) && !slices.Contains(want, form) {
					want = append(want, form)
				}
			}
		}
		got, e := morph.Generate(l, lemma, feats)
		if known != (e == api.OK) || !known && e != api.ErrNone || !slices.Equal(got, want) {
			t.Fatalf("%v: Generate(%s, %v): %q, error %d, want %q", l, lemma, feats, got, e, want)
		}
		for _, word := range got {
			generated++
			all, _ := morph.Analyze(l, word)
			if !slices.ContainsFunc(all, func(x api.Analysis) bool {
				has, e := morph.Feats(l, x.Entry, x.Slot)
				return len(x.Firsts) == 0 && l.Entries[x.Entry].Lemma == lemma && e == api.OK && morph.Subsumes(feats, has)
			}) {
				t.Fatalf("%v: %s of %s with %v: %v", l, word, lemma, feats, all)
			}
		}
	}
	if generated < rounds {
		t.Errorf("just %d words were generated", generated)
	}
}

// P2.8: Words, After and Ambiguous by Forms.
func TestAnalyzerByForms(t *testing.T) {
	r := dice()
	for range 5 * rounds {
		l := anyLexicon(t, r)
		count := map[string]int{}
		var words, ambiguous []string
		for entry := range l.Entries {
			forms, _ := morph.Forms(l, entry)
			for _, form := range forms {
				count[form]++
				if form != "" && count[form] == 1 {
					words = append(words, form)
				}
				if form != "" && count[form] == 2 {
					ambiguous = append(ambiguous, form)
				}
			}
		}
		slices.Sort(words)
		slices.Sort(ambiguous)
		a := analyzer(t, l)
		if got := a.Words(); !slices.Equal(got, words) {
			t.Fatalf("%v: %q, want %q", l, got, words)
		}
		if got := a.Ambiguous(); !slices.Equal(got, ambiguous) {
			t.Fatalf("%v: %q, want %q", l, got, ambiguous)
		}
		for range 10 {
			s := spelled(r, "abc\x00\xff", 4)
			i := slices.IndexFunc(words, func(w string) bool { return w > s })
			got, ok := a.After(s)
			if ok != (i >= 0) || !ok && got != "" || ok && got != words[i] {
				t.Fatalf("%q after %q: %q, %v", words, s, got, ok)
			}
		}
	}
}

// P2.3, P2.9: the text of a valid lexicon is parsed as that lexicon.
func TestTextThereAndBack(t *testing.T) {
	r := dice()
	for range 10 * rounds {
		l := anyLexicon(t, r)
		text := printed(t, l)
		if got := parsed(t, text); !same(got, l) {
			t.Fatalf("%v became %v", l, got)
		}
	}
}

// P2.3: a text that is parsed is printed as it was, without the lines that are passed over.
func TestTextBackAndThere(t *testing.T) {
	r := dice()
	accepted := 0
	for range 50 * rounds {
		lines := strings.Split(givenText, "\n")
		for range 1 + r.IntN(3) {
			i := r.IntN(len(lines))
			words := strings.Split(lines[i], " ")
			j := r.IntN(len(words))
			switch r.IntN(6) {
			case 0:
				lines = slices.Delete(lines, i, i+1)
			case 1:
				lines = slices.Insert(lines, i, pick(r, lines...))
			case 2:
				lines = slices.Insert(lines, i, pick(r, "", ";", "; x", " "))
			case 3:
				words[j] = pick(r, "-", "a", "0", "1", "00", "num=pl", "noun", "", "x=", "+")
				lines[i] = strings.Join(words, " ")
			case 4:
				lines[i] = strings.Join(slices.Delete(words, j, j+1), " ")
			case 5:
				lines[i] = strings.Join(slices.Insert(words, j, pick(r, "a", "num=sg", "-", "")), " ")
			}
		}
		text := strings.Join(lines, "\n")
		want := ""
		for _, s := range lines {
			if s != "" && s[0] != ';' {
				want += s + "\n"
			}
		}
		l, line, e := morph.Parse(text)
		if e != api.OK {
			if !same(l, api.Lexicon{}) || line < 0 || line > len(lines) || (e == api.ErrForm) != (line > 0) {
				t.Fatalf("%q: %v, line %d, error %d", text, l, line, e)
			}
			continue
		}
		accepted++
		if got := printed(t, l); got != want || line != 0 {
			t.Fatalf("%q became %q", text, got)
		}
	}
	if accepted < rounds {
		t.Errorf("just %d texts were accepted", accepted)
	}
}

// anything makes a lexicon that need not be valid.
func anything(r *rand.Rand) api.Lexicon {
	text := func() string {
		return pick(r, "a", "num", "sg", "n", "-", "", "\xff", "A b", "+#", strings.Repeat("x", 30))
	}
	feats := func() []api.Feat {
		return some(r, 2, func() api.Feat { return api.Feat{Name: text(), Value: text()} })
	}
	number := func() int { return pick(r, -1<<63, -1, 0, 1, 2, 1<<63-1) }
	if r.IntN(2) == 0 { // one that has few errors
		l := sound()
		pick(r, faults()...).spoil(&l)
		return l
	}
	return api.Lexicon{
		Vowels: pick(r, "", "a", "aa", "\xff"),
		Traits: some(r, 2, func() api.Trait { return api.Trait{Name: text(), Values: some(r, 2, text)} }),
		Classes: some(r, 2, func() api.Class {
			return api.Class{Name: text(), Slots: some(r, 2, func() api.Slot {
				return api.Slot{Cut: number(), Pre: text(), Add: text(), Feats: feats()}
			})}
		}),
		Entries: some(r, 2, func() api.Entry {
			return api.Entry{Lemma: text(), Class: text(), Feats: feats(), Forms: some(r, 2, func() api.Irregular {
				return api.Irregular{Slot: number(), Word: text()}
			})}
		}),
		Spells: some(r, 2, func() api.Spell { return api.Spell{From: text(), To: text(), Left: text(), Right: text()} }),
		Links:  some(r, 2, func() api.Link { return api.Link{Class: text(), Glue: text(), Feats: feats()} }),
	}
}

// P0.1: any arguments are answered; the lexicon's error comes first, with zero values beside it.
func TestAnyArguments(t *testing.T) {
	r := dice()
	for range 30 * rounds {
		l := anything(r)
		n, m := pick(r, -1<<63, -1, 0, 1, 1<<63-1), pick(r, -1<<63, -1, 0, 1, 1<<63-1)
		s := pick(r, "", "a", "\xff", "dog", "vowels", strings.Repeat("a", 600))
		feats := []api.Feat{{Name: s, Value: s}}
		x := api.Analysis{Firsts: some(r, 4, func() api.First { return api.First{Entry: n, Slot: m, Link: n} }), Entry: m, Slot: n}
		want := morph.Check(l)
		check := func(name string, zero bool, e api.Errno) {
			t.Helper()
			if e != api.OK && !zero || want != api.OK && e != want {
				t.Fatalf("%v: %s: error %d, want %d, zero: %v", l, name, e, want, zero)
			}
		}
		text, e := morph.Print(l)
		check("Print", text == "", e)
		check("Bundle", true, morph.Bundle(l, feats))
		list, e := morph.Feats(l, n, m)
		check("Feats", len(list) == 0, e)
		text, e = morph.Spell(l, n, s)
		check("Spell", text == "", e)
		steps, e := morph.Steps(l, n, m)
		check("Steps", len(steps) == 0, e)
		text, e = morph.Form(l, n, m)
		check("Form", text == "", e)
		steps, e = morph.Forms(l, n)
		check("Forms", len(steps) == 0, e)
		text, e = morph.Build(l, x)
		check("Build", text == "", e)
		all, e := morph.Analyze(l, s)
		check("Analyze", len(all) == 0, e)
		entry, e := morph.Find(l, s, s)
		check("Find", entry == 0, e)
		steps, e = morph.Generate(l, s, feats)
		check("Generate", len(steps) == 0, e)
		a, e := morph.New(l)
		check("New", a == nil, e)
		morph.Unify(feats, list)
		morph.Subsumes(feats, list)
	}
}

package desk_test

import (
	"slices"
	"strings"
	"testing"

	"truchman/api"
	"truchman/checks"
	"truchman/decode"
	"truchman/desk"
	"truchman/docs"
	"truchman/grammar"
	"truchman/morph"
	"truchman/office"
)

// variant is a certificate with something changed, and what Verify must say of it.
type variant struct {
	what   string
	want   api.Errno
	change func(c *api.Certificate)
}

// verified holds a certificate, which must hold, and its variants.
func verified(t *testing.T, made func() api.Certificate, l []variant) {
	t.Helper()
	if e := desk.Verify(made()); e != api.OK {
		t.Fatalf("unchanged: error %d", e)
	}
	for _, x := range l {
		c := made()
		x.change(&c)
		if e := desk.Verify(c); e != x.want {
			t.Errorf("%s: error %d, want %d", x.what, e, x.want)
		}
	}
}

// ofOtherKinds are fields of a certificate that its kind does not name, with any values.
func ofOtherKinds(kind api.CertKind) api.Certificate {
	junk := api.Office{Version: -1, Langs: []string{""}}
	c := api.Certificate{Kind: kind, Word: "-", Words: []string{""}, Total: -5, Formula: "(", Base: junk, A: junk, B: junk, Merged: junk}
	c.Lexicon.Vowels, c.System.Start = "ba", "?"
	c.Analyses = []api.Analysis{{Entry: -1}, {Entry: -1}}
	c.Model.Unknown = -1
	c.Tree.Rule = -7
	c.Proof = []api.State{{Item: -1}}
	c.Pair.Source = []api.Piece{{Kind: 77}}
	c.Reasons = []api.Reason{{Formula: "x"}}
	return c
}

// P10.1: certificates of no listed kind.
func TestVerifyKinds(t *testing.T) {
	for _, kind := range []api.CertKind{api.CtNone, api.CtMerge + 1, 255} {
		if e := desk.Verify(api.Certificate{Kind: kind}); e != api.ErrArg {
			t.Errorf("kind %d: error %d", kind, e)
		}
		if e := desk.Verify(ofOtherKinds(kind)); e != api.ErrArg {
			t.Errorf("kind %d: error %d", kind, e)
		}
	}
	for kind := api.CtAnalysis; kind <= api.CtMerge; kind++ {
		if e := desk.Verify(ofOtherKinds(kind)); e != api.ErrState {
			t.Errorf("kind %d: error %d", kind, e)
		}
	}
	for _, kind := range []api.CertKind{api.CtAnalysis, api.CtTranslation, api.CtFailure} {
		if e := desk.Verify(api.Certificate{Kind: kind}); e != api.ErrState {
			t.Errorf("kind %d, zero: error %d", kind, e)
		}
	}
	// The merge of offices without anything.
	if e := desk.Verify(api.Certificate{Kind: api.CtMerge}); e != api.OK {
		t.Error(e)
	}
}

// P10.1: certificates of analyses.
func TestVerifyAnalysis(t *testing.T) {
	made := func() api.Certificate {
		c := ofOtherKinds(api.CtAnalysis)
		c.Lexicon, c.Word = lexicon(englishText+"link noun s\n"), "dogscat"
		c.Analyses = []api.Analysis{ // by its plural, and by the link with an s
			{Firsts: []api.First{{Entry: 0, Slot: 1, Link: 0}}, Entry: 1},
			{Firsts: []api.First{{Entry: 0, Slot: 0, Link: 1}}, Entry: 1},
		}
		// The plural is not first part by the link 0, which wants num=sg.
		c.Lexicon.Links[0].Feats = nil
		return c
	}
	verified(t, made, []variant{
		{"one of both", api.OK, func(c *api.Certificate) { c.Analyses = c.Analyses[1:] }},
		{"in another order", api.OK, func(c *api.Certificate) { slices.Reverse(c.Analyses) }},
		{"of no listed kind", api.ErrArg, func(c *api.Certificate) { c.Kind = api.CtNone }},
		{"of another kind", api.ErrState, func(c *api.Certificate) { c.Kind = api.CtFailure }},
		{"none", api.ErrState, func(c *api.Certificate) { c.Analyses = nil }},
		{"one twice", api.ErrState, func(c *api.Certificate) { c.Analyses = append(c.Analyses, c.Analyses[0]) }},
		{"another word", api.ErrState, func(c *api.Certificate) { c.Word = "dogcat" }},
		{"an entry that does not exist", api.ErrState, func(c *api.Certificate) { c.Analyses[1].Entry = 4 }},
		{"another slot", api.ErrState, func(c *api.Certificate) { c.Analyses[0].Slot = 1 }},
		{"another link", api.ErrState, func(c *api.Certificate) { c.Analyses[0].Firsts[0].Link = 1 }},
		{"another first part", api.ErrState, func(c *api.Certificate) { c.Analyses[1].Firsts[0].Slot = 1 }},
		{"without a first part", api.ErrState, func(c *api.Certificate) { c.Analyses[0].Firsts = nil }},
		{"too many first parts", api.ErrState, func(c *api.Certificate) {
			c.Analyses[0].Firsts = slices.Repeat(c.Analyses[0].Firsts, api.MaxFirsts+1)
		}},
		{"another lexicon", api.ErrState, func(c *api.Certificate) { c.Lexicon.Entries[0].Lemma = "cow" }},
		{"a link that is not allowed", api.ErrState, func(c *api.Certificate) { c.Lexicon.Links[0].Feats = []api.Feat{{Name: "num", Value: "sg"}} }},
		{"a lexicon that is not valid", api.ErrState, func(c *api.Certificate) { c.Lexicon.Vowels = "ba" }},
	})
	// A word that several entries and slots have, where the analyses differ by one number alone.
	many := func() api.Certificate {
		l := lexicon("vowels a\nclass n\nslot 0 - -\nslot 0 - -\nclass m\nslot 0 - -\nentry a n\nentry a m\nlink n -\nlink n -\n")
		c := api.Certificate{Kind: api.CtAnalysis, Lexicon: l, Word: "aa"}
		c.Analyses, _ = morph.Analyze(l, c.Word)
		return c
	}
	verified(t, many, []variant{
		{"backwards", api.OK, func(c *api.Certificate) { slices.Reverse(c.Analyses) }},
		{"the first one twice", api.ErrState, func(c *api.Certificate) { c.Analyses = append(c.Analyses, c.Analyses[0]) }},
		{"the last one twice", api.ErrState, func(c *api.Certificate) {
			c.Analyses = append([]api.Analysis{c.Analyses[len(c.Analyses)-1]}, c.Analyses...)
		}},
		{"a word without them", api.ErrState, func(c *api.Certificate) { c.Analyses, c.Word = nil, "b" }},
		{"no word", api.ErrState, func(c *api.Certificate) { c.Word = "" }},
	})
	if n := len(many().Analyses); n != 12 {
		t.Error(n)
	}
	// A list of first parts may be nil or empty: these are equal.
	twice := many()
	twice.Word, twice.Analyses = "a", []api.Analysis{{}, {Firsts: []api.First{}}}
	if e := desk.Verify(twice); e != api.ErrState {
		t.Error(e)
	}
}

// translated is the certificate of a translation.
func translated(s api.System, m api.Model, words string) api.Certificate {
	c := ofOtherKinds(api.CtTranslation)
	c.System, c.Model, c.Words = s, m, strings.Fields(words)
	trees, _ := decode.Best(s, m, c.Words, 1)
	c.Tree = trees[0]
	c.Total, _ = decode.Total(s, m, c.Tree)
	c.Proof, _ = decode.Prove(s, m, c.Words)
	return c
}

// twoText are rules by which "x" has two translations, that of S2 has no place in them, and "y" has the same cost as "x".
const twoText = `start S
rule S 1
source =x
target =a
rule S 2
source =x
target =b
rule R 1
source =x
target =a
rule S 1
source =y
target =a
`

// P10.1: certificates of translations.
func TestVerifyTranslation(t *testing.T) {
	m := api.Model{Unknown: 4, Words: []api.Uni{{Cost: 1, Back: 2}, {Word: "der", Cost: 1, Back: 1}}, Pairs: []api.Bi{{First: "der", Second: "hund"}}}
	made := func() api.Certificate { return translated(given(), m, theWords) }
	if c := made(); c.Total != 17 {
		t.Error(c.Total)
	}
	verified(t, made, []variant{
		{"of no listed kind", api.ErrArg, func(c *api.Certificate) { c.Kind = 9 }},
		{"of another kind", api.ErrState, func(c *api.Certificate) { c.Kind = api.CtAnalysis }},
		{"a lower total", api.ErrState, func(c *api.Certificate) { c.Total-- }},
		{"a higher total", api.ErrState, func(c *api.Certificate) { c.Total++ }},
		{"other words", api.ErrState, func(c *api.Certificate) { c.Words = strings.Fields("the dogs see the dog") }},
		{"a word less", api.ErrState, func(c *api.Certificate) { c.Words = c.Words[:4] }},
		{"no words", api.ErrState, func(c *api.Certificate) { c.Words = nil }},
		{"too many words", api.ErrState, func(c *api.Certificate) { c.Words = slices.Repeat(c.Words, 4) }},
		{"a part of the tree", api.ErrState, func(c *api.Certificate) { c.Tree = c.Tree.Kids[0] }},
		{"another tree", api.ErrState, func(c *api.Certificate) { c.Tree.Kids[0] = c.Tree.Kids[1].Kids[1] }},
		{"a lexical tree", api.ErrState, func(c *api.Certificate) { c.Tree = api.Tree{Rule: -1} }},
		{"a tree that is none", api.ErrState, func(c *api.Certificate) { c.Tree = tree("(0 (1 [0 1 > 0 0]) (2 [2 0 > 2 0] (1 [0 1 > 0 1])))") }},
		{"without a proof", api.ErrState, func(c *api.Certificate) { c.Proof = nil }},
		{"without a state of the proof", api.ErrState, func(c *api.Certificate) { c.Proof = c.Proof[:len(c.Proof)-1] }},
		{"with a state that costs more", api.ErrState, func(c *api.Certificate) { c.Proof[0].Cost++ }},
		{"with a goal that costs less", api.ErrState, func(c *api.Certificate) { c.Proof[len(c.Proof)-1].Cost-- }},
		{"with a state more that costs more", api.OK, func(c *api.Certificate) {
			x := c.Proof[len(c.Proof)-1]
			x.Last, x.Cost = "z", x.Cost+10
			c.Proof = append(c.Proof, x)
		}},
		{"with another order", api.ErrState, func(c *api.Certificate) { slices.Reverse(c.Proof) }},
		{"with other costs of rules", api.ErrState, func(c *api.Certificate) { c.System.Rules[0].Cost++ }},
		{"with a cheaper rule", api.ErrState, func(c *api.Certificate) { c.System.Rules[0].Cost-- }},
		{"another start", api.ErrState, func(c *api.Certificate) { c.System.Start = "NP" }},
		{"a system that is not valid", api.ErrState, func(c *api.Certificate) { c.System.Start = "" }},
		{"another model", api.ErrState, func(c *api.Certificate) { c.Model.Unknown++ }},
		{"a model that is not valid", api.ErrState, func(c *api.Certificate) { c.Model.Unknown = -1 }},
		{"another lexicon", api.ErrState, func(c *api.Certificate) { c.System.Source.Entries[0].Lemma = "cow" }},
	})
	two := func() api.Certificate { return translated(ruled(twoText), api.Model{}, "x") }
	verified(t, two, []variant{
		{"the second best tree", api.ErrState, func(c *api.Certificate) { c.Tree, c.Total = api.Tree{Rule: 1}, 2 }},
		{"the second best tree, with the total of the best", api.ErrState, func(c *api.Certificate) { c.Tree = api.Tree{Rule: 1} }},
		{"a tree of another category, with the same words and total", api.ErrState, func(c *api.Certificate) { c.Tree = api.Tree{Rule: 2} }},
		{"a tree of other words, with the same total", api.ErrState, func(c *api.Certificate) { c.Tree = api.Tree{Rule: 3} }},
		{"other words with the same total", api.ErrState, func(c *api.Certificate) { c.Words = []string{"y"} }},
		{"a proof of less", api.ErrState, func(c *api.Certificate) {
			for i := range c.Proof {
				c.Proof[i].Cost = 0
			}
		}},
	})
	deep, _ := chained(api.MaxDepth)
	deeper, _ := chained(api.MaxDepth + 1)
	if e := desk.Verify(translated(ruled(deep), api.Model{}, "x a")); e != api.OK {
		t.Error(e)
	}
	if e := desk.Verify(translated(ruled(deeper), api.Model{}, "x a")); e != api.ErrState { // Derive does not accept its tree
		t.Error(e)
	}
}

// P10.1: certificates of failures.
func TestVerifyFailure(t *testing.T) {
	made := func() api.Certificate {
		c := ofOtherKinds(api.CtFailure)
		c.Formula = `all w in words(source): (w in words(target) or w == "x")`
		c.Pair = api.Pair{Source: pieces("a b"), Target: pieces("a c")}
		_, c.Reasons, _ = checks.Explain(c.Formula, c.Pair)
		return c
	}
	if c := made(); len(c.Reasons) != 2 || c.Reasons[0].Bounds[0].Value != "b" {
		t.Error(c.Reasons)
	}
	verified(t, made, []variant{
		{"of no listed kind", api.ErrArg, func(c *api.Certificate) { c.Kind = 255 }},
		{"of another kind", api.ErrState, func(c *api.Certificate) { c.Kind = api.CtTranslation }},
		{"the formula written otherwise", api.OK, func(c *api.Certificate) { c.Formula = strings.ReplaceAll(c.Formula, ": ", ":") }},
		{"another formula", api.ErrState, func(c *api.Certificate) { c.Formula = `size(words(source)) == 3` }},
		{"a formula that is true", api.ErrState, func(c *api.Certificate) {
			c.Formula = "1 == 1"
			_, c.Reasons, _ = checks.Explain(c.Formula, c.Pair)
		}},
		{"no formula", api.ErrState, func(c *api.Certificate) { c.Formula, c.Reasons = "", nil }},
		{"a pair of which it is true", api.ErrState, func(c *api.Certificate) {
			c.Pair.Target = pieces("b a")
			_, c.Reasons, _ = checks.Explain(c.Formula, c.Pair)
		}},
		{"another pair", api.ErrState, func(c *api.Certificate) { c.Pair.Source = pieces("d") }},
		{"a pair that says the same", api.OK, func(c *api.Certificate) { c.Pair.Target = pieces("c a") }},
		{"a pair that is not valid", api.ErrState, func(c *api.Certificate) { c.Pair.Target[0].Kind = api.PiOpen }},
		{"both sides of the pair exchanged", api.ErrState, func(c *api.Certificate) { c.Pair.Source, c.Pair.Target = c.Pair.Target, c.Pair.Source }},
		{"without reasons", api.ErrState, func(c *api.Certificate) { c.Reasons = nil }},
		{"with a reason less", api.ErrState, func(c *api.Certificate) { c.Reasons = c.Reasons[:1] }},
		{"with a reason more", api.ErrState, func(c *api.Certificate) { c.Reasons = append(c.Reasons, c.Reasons[1]) }},
		{"with reasons in another order", api.ErrState, func(c *api.Certificate) { slices.Reverse(c.Reasons) }},
		{"with another formula of a reason", api.ErrState, func(c *api.Certificate) { c.Reasons[1].Formula += " " }},
		{"with another truth", api.ErrState, func(c *api.Certificate) { c.Reasons[1].True = true }},
		{"with another name bound", api.ErrState, func(c *api.Certificate) { c.Reasons[1].Bounds[0].Name = "v" }},
		{"with another value bound", api.ErrState, func(c *api.Certificate) { c.Reasons[1].Bounds[0].Value = "a" }},
		{"with nothing bound", api.ErrState, func(c *api.Certificate) { c.Reasons[1].Bounds = nil }},
	})
}

// The makers of offices for certificates of merges. Each office has the language de, in which ann and cy translate and bob reviews.

func event(kind api.EventKind, who string, segment int, text string) api.Event {
	return api.Event{Kind: kind, Who: who, Lang: "de", Segment: segment, Text: text}
}

func newSource(text string) api.Event { return api.Event{Kind: api.EvSource, Text: text} }

// approvedBy are the events by which somebody writes a text that bob approves.
func approvedBy(who string, segment int, text string) []api.Event {
	return []api.Event{event(api.EvLock, who, segment, ""), event(api.EvEdit, who, segment, text), event(api.EvFree, who, segment, ""), event(api.EvApprove, "bob", segment, "")}
}

func ran(o api.Office, l ...[]api.Event) api.Office {
	for _, events := range l {
		next, at, e := office.Run(o, events)
		if e != api.OK {
			panic([]any{"event", at, e})
		}
		o = next
	}
	return o
}

func staffed(text string) api.Office {
	o, e := office.New(text, []api.Break{{Before: ".%s", Break: true}})
	if e != api.OK {
		panic(e)
	}
	return ran(o, []api.Event{
		{Kind: api.EvLanguage, Lang: "de"},
		{Kind: api.EvPerson, Lang: "de", Who: "ann", Role: api.RoTranslator},
		{Kind: api.EvPerson, Lang: "de", Who: "cy", Role: api.RoTranslator},
		{Kind: api.EvPerson, Lang: "de", Who: "bob", Role: api.RoReviewer},
		{Kind: api.EvPerson, Lang: "de", Who: "dan", Role: api.RoReviewer},
	})
}

func merged(base, a, b api.Office) func() api.Certificate {
	return func() api.Certificate {
		c := ofOtherKinds(api.CtMerge)
		// Run returns new memory, in which a test may change what it likes.
		c.Base, c.A, c.B = ran(base, nil), ran(a, nil), ran(b, nil)
		m, _, e := office.Merge(base, a, b)
		if e != api.OK {
			panic(e)
		}
		c.Merged = m
		return c
	}
}

// P10.1: certificates of merges with an equal source.
func TestVerifyMerge(t *testing.T) {
	base := ran(staffed("p A. B. C. D\n"), approvedBy("ann", 3, "d"))
	a := ran(base, approvedBy("ann", 0, "a"), approvedBy("ann", 1, "b"))
	b := ran(base, approvedBy("cy", 1, "c"), []api.Event{event(api.EvLock, "ann", 2, ""), event(api.EvEdit, "ann", 2, "x")})
	made := merged(base, a, b)
	c := made()
	if m := c.Merged.Cells[0]; m[0].Text != "a" || m[1].Text != "b" || len(m[1].Others) != 1 || !m[1].Others[0].Approved || m[2].Text != "x" || m[3].Text != "d" {
		t.Fatalf("%+v", m)
	}
	verified(t, made, []variant{
		{"of no listed kind", api.ErrArg, func(c *api.Certificate) { c.Kind = 5 }},
		{"of another kind", api.ErrState, func(c *api.Certificate) { c.Kind = api.CtFailure }},
		{"both sessions exchanged", api.OK, func(c *api.Certificate) { c.A, c.B = c.B, c.A }},
		{"A's text that nobody else has is empty", api.ErrState, func(c *api.Certificate) { c.Merged.Cells[0][0] = api.Cell{} }},
		{"it is another one", api.ErrState, func(c *api.Certificate) { c.Merged.Cells[0][0].Text = "z" }},
		{"it is somebody else's", api.ErrState, func(c *api.Certificate) { c.Merged.Cells[0][0].Author = "cy" }},
		{"it is a draft", api.ErrState, func(c *api.Certificate) {
			c.Merged.Cells[0][0].State, c.Merged.Cells[0][0].Reviewer = api.CeDraft, ""
		}},
		{"it is rejected", api.ErrState, func(c *api.Certificate) { c.Merged.Cells[0][0].State = api.CeRejected }},
		{"it is stale", api.ErrState, func(c *api.Certificate) { c.Merged.Cells[0][0].Stale = true }},
		{"it was approved by another one", api.OK, func(c *api.Certificate) { c.Merged.Cells[0][0].Reviewer = "dan" }},
		{"it stands among the others", api.OK, func(c *api.Certificate) {
			c.Merged.Cells[0][0] = api.Cell{Others: []api.Other{{Text: "a", Author: "ann", Approved: true}}}
		}},
		{"it stands among the others, not approved", api.ErrState, func(c *api.Certificate) {
			c.Merged.Cells[0][0] = api.Cell{Others: []api.Other{{Text: "a", Author: "ann"}}}
		}},
		{"it stands among the others, of another author", api.ErrState, func(c *api.Certificate) {
			c.Merged.Cells[0][0] = api.Cell{Others: []api.Other{{Text: "a", Author: "cy", Approved: true}}}
		}},
		{"another text stands among the others", api.ErrState, func(c *api.Certificate) {
			c.Merged.Cells[0][0] = api.Cell{Others: []api.Other{{Text: "b", Author: "ann", Approved: true}}}
		}},
		{"B's text that was not kept is lost", api.ErrState, func(c *api.Certificate) { c.Merged.Cells[0][1].Others = nil }},
		{"B's text that was not kept is not approved", api.ErrState, func(c *api.Certificate) { c.Merged.Cells[0][1].Others[0].Approved = false }},
		{"A's text that was kept is lost", api.ErrState, func(c *api.Certificate) { c.Merged.Cells[0][1].Text = "z" }},
		{"a draft is lost", api.OK, func(c *api.Certificate) { c.Merged.Cells[0][2] = api.Cell{} }},
		{"a text of base is lost", api.OK, func(c *api.Certificate) { c.Merged.Cells[0][3] = api.Cell{} }},
		{"a text that base has otherwise is lost", api.ErrState, func(c *api.Certificate) {
			c.Base.Cells[0][3].Text, c.Merged.Cells[0][3] = "x", api.Cell{}
		}},
		{"a text that base has by another author is lost", api.ErrState, func(c *api.Certificate) {
			c.Base.Cells[0][3].Author, c.Merged.Cells[0][3] = "cy", api.Cell{}
		}},
		{"a text that base has by another reviewer is lost", api.ErrState, func(c *api.Certificate) {
			c.Base.Cells[0][3].Reviewer, c.Merged.Cells[0][3] = "dan", api.Cell{}
		}},
		{"a text that base has rejected is lost", api.ErrState, func(c *api.Certificate) {
			c.Base.Cells[0][3].State, c.Merged.Cells[0][3] = api.CeRejected, api.Cell{}
		}},
		{"a text that base has stale is lost", api.ErrState, func(c *api.Certificate) {
			c.Base.Cells[0][3].Stale, c.Merged.Cells[0][3] = true, api.Cell{}
		}},
		{"a text that base has since another version is lost", api.ErrState, func(c *api.Certificate) {
			c.Base.Version, c.Base.Cells[0][3].Since, c.Merged.Cells[0][3] = 1, 1, api.Cell{}
		}},
		{"a text that base has with a lock is lost", api.OK, func(c *api.Certificate) {
			c.Base.Cells[0][3].Lock, c.Merged.Cells[0][3] = "ann", api.Cell{}
		}},
		{"a text that base has with another one is lost", api.OK, func(c *api.Certificate) {
			c.Base.Cells[0][3].Others, c.Merged.Cells[0][3] = []api.Other{{Text: "x", Author: "ann"}}, api.Cell{}
		}},
		{"a lock is lost", api.OK, func(c *api.Certificate) { c.Merged.Cells[0][2].Lock = "" }},
		{"with other rules of base", api.ErrState, func(c *api.Certificate) { c.Base.Rules = nil }},
		{"with other rules of A", api.ErrState, func(c *api.Certificate) { c.A.Rules = append(c.A.Rules, api.Break{Before: "x"}) }},
		{"with other rules of B", api.ErrState, func(c *api.Certificate) { c.B.Rules[0].After = "%b" }},
		{"with rules of Merged that cut elsewhere", api.ErrState, func(c *api.Certificate) { c.Merged.Rules = nil }},
		{"with other rules of Merged", api.ErrState, func(c *api.Certificate) { c.Merged.Rules = append(c.Merged.Rules, api.Break{Before: "x"}) }},
		{"Merged is not valid", api.ErrState, func(c *api.Certificate) { c.Merged.Version = -1 }},
		{"base is not valid", api.ErrState, func(c *api.Certificate) { c.Base.Version = -1 }},
		{"A is not valid", api.ErrState, func(c *api.Certificate) { c.A.People = append(c.A.People, c.A.People[0]) }},
		{"B is not valid", api.ErrState, func(c *api.Certificate) { c.B.Cells[0][0].Lock = "eve" }},
		{"versions do not matter", api.OK, func(c *api.Certificate) { c.Base.Version = api.MaxVersion }},
		{"a language less", api.OK, func(c *api.Certificate) { c.Merged.Langs, c.Merged.People, c.Merged.Cells = nil, nil, nil }},
		{"base without the language", api.ErrState, func(c *api.Certificate) {
			c.Base.Langs, c.Base.People, c.Base.Cells = nil, nil, nil
			c.Merged.Cells[0][3] = api.Cell{}
		}},
		{"a session without the language", api.OK, func(c *api.Certificate) {
			c.A.Langs, c.A.People, c.A.Cells = nil, nil, nil
			c.Merged.Cells[0][0] = api.Cell{}
		}},
		{"a language more", api.OK, func(c *api.Certificate) {
			c.Merged.Langs = append(c.Merged.Langs, "fr")
			c.Merged.Cells = append(c.Merged.Cells, make([]api.Cell, 4))
		}},
	})
}

// P10.1: languages stand at other places in each of the offices.
func TestVerifyMergeLanguages(t *testing.T) {
	base := staffed("p A. B\n")
	a := ran(base, []api.Event{{Kind: api.EvLanguage, Lang: "aa"}}, approvedBy("ann", 0, "a"))
	b := ran(base, []api.Event{
		{Kind: api.EvLanguage, Lang: "bb"}, {Kind: api.EvLanguage, Lang: "zz"},
		{Kind: api.EvPerson, Lang: "zz", Who: "ann", Role: api.RoTranslator}, {Kind: api.EvPerson, Lang: "zz", Who: "bob", Role: api.RoReviewer},
		{Kind: api.EvLock, Lang: "zz", Who: "ann", Segment: 1}, {Kind: api.EvEdit, Lang: "zz", Who: "ann", Segment: 1, Text: "z"},
		{Kind: api.EvFree, Lang: "zz", Who: "ann", Segment: 1}, {Kind: api.EvApprove, Lang: "zz", Who: "bob", Segment: 1},
	}, approvedBy("cy", 1, "b"))
	made := merged(base, a, b)
	if c := made(); !slices.Equal(c.Merged.Langs, []string{"aa", "bb", "de", "zz"}) {
		t.Fatal(c.Merged.Langs)
	}
	verified(t, made, []variant{
		{"A's text is lost", api.ErrState, func(c *api.Certificate) { c.Merged.Cells[2][0] = api.Cell{} }},
		{"B's text is lost", api.ErrState, func(c *api.Certificate) { c.Merged.Cells[2][1] = api.Cell{} }},
		{"B's text in a language of its own is lost", api.ErrState, func(c *api.Certificate) { c.Merged.Cells[3][1] = api.Cell{} }},
	})
}

// P10.1: certificates of merges to a source that is not that of all.
func TestVerifyMergeSources(t *testing.T) {
	base := ran(staffed("p A. B\n"), approvedBy("ann", 0, "a"))
	a := ran(base, []api.Event{newSource("p C. A. B\n")}, approvedBy("ann", 0, "c"))
	b := ran(base, approvedBy("cy", 1, "b"))
	verified(t, merged(base, a, b), []variant{
		{"A's text is lost", api.ErrState, func(c *api.Certificate) { c.Merged.Cells[0][0] = api.Cell{} }},
		{"B's text, which is one segment further on, is lost", api.ErrState, func(c *api.Certificate) { c.Merged.Cells[0][2] = api.Cell{} }},
		{"a text of base is lost", api.OK, func(c *api.Certificate) { c.Merged.Cells[0][1] = api.Cell{} }},
		{"base is not valid", api.ErrState, func(c *api.Certificate) { c.Base.Version = -1 }},
		{"A is not valid", api.ErrState, func(c *api.Certificate) { c.A.Version = -1 }},
		{"B is not valid", api.ErrState, func(c *api.Certificate) { c.B.Version = -1 }},
		{"base cannot be updated", api.ErrState, func(c *api.Certificate) { c.Base.Version = api.MaxVersion }},
		{"B cannot be updated", api.ErrState, func(c *api.Certificate) { c.B.Version = api.MaxVersion }},
		{"A need not be updated", api.OK, func(c *api.Certificate) { c.A.Version = api.MaxVersion }},
		{"base's text is on no shelf, but no session changed it", api.OK, func(c *api.Certificate) { c.Merged.Shelf = nil }},
		{"a source in which the texts stand at other places", api.ErrState, func(c *api.Certificate) { c.Merged.Source = staffed("p A. C. B\n").Source }},
	})
	// A text that a session has on its shelf comes into a cell by the update.
	base = staffed("p A\n")
	a = ran(base, approvedBy("ann", 0, "a"), []api.Event{newSource("p B\n"), newSource("p A\n")})
	b = ran(base, []api.Event{newSource("p A\np A\n")})
	verified(t, merged(base, a, b), []variant{
		{"it is lost", api.ErrState, func(c *api.Certificate) { c.Merged.Cells[0][0] = api.Cell{} }},
		{"it is lost at the other place", api.ErrState, func(c *api.Certificate) { c.Merged.Cells[0][1] = api.Cell{} }},
	})
	// A text that the update makes stale need not be there.
	a = ran(base, approvedBy("ann", 0, "a"))
	b = ran(base, []api.Event{newSource("p B\n")})
	verified(t, merged(base, a, b), []variant{
		{"it is lost", api.OK, func(c *api.Certificate) { c.Merged.Cells[0][0] = api.Cell{} }},
	})
}

// P10.1: the written form of the source may be too long, if all others are so short that no update is asked for.
func TestVerifyMergeLong(t *testing.T) {
	part := strings.Repeat("a", api.MaxText/2-3)
	var o api.Office
	for range 2 {
		o.Source.Blocks = append(o.Source.Blocks, api.Block{Kind: api.BlPara, Pieces: []api.Piece{{Kind: api.PiText, Text: part}}})
	}
	c := api.Certificate{Kind: api.CtMerge, Base: o, A: o, B: o, Merged: o}
	if text, e := docs.Print(o.Source); e != api.OK || len(text) != api.MaxText {
		t.Fatal(len(text), e)
	}
	if e := desk.Verify(c); e != api.OK {
		t.Error(e)
	}
	o.Source.Blocks[0].Pieces[0].Text += "a"
	if e := office.Check(o); e != api.OK {
		t.Error(e)
	}
	if e := desk.Verify(c); e != api.ErrState {
		t.Error(e)
	}
}

// P0.1: Verify takes any certificate.
func TestVerifyAny(t *testing.T) {
	c := ofOtherKinds(api.CtTranslation)
	c.Tree = api.Tree{Rule: 0, Kids: []api.Tree{{Rule: 99}}}
	c.System = given()
	for _, kind := range []api.CertKind{api.CtAnalysis, api.CtTranslation, api.CtFailure, api.CtMerge} {
		c.Kind = kind
		if e := desk.Verify(c); e != api.ErrState {
			t.Error(kind, e)
		}
	}
	if _, e := grammar.Derive(c.System, c.Tree); e == api.OK {
		t.Error("derived")
	}
}

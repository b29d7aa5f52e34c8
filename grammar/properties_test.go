package grammar_test

import (
	"math/rand/v2"
	"slices"
	"strings"
	"testing"

	"truchman/api"
	"truchman/grammar"
	"truchman/morph"
)

// Tests of P3.1 to P3.8 and of P0.1, with many values that a seed makes.

// names are the categories of the systems that are made.
var names = []string{"A", "B", "C"}

// anyLexicon makes a valid lexicon with the lemmas x and y, and one that is none.
func anyLexicon(t *testing.T, r *rand.Rand) api.Lexicon {
	t.Helper()
	feats := func() []api.Feat { return b(pick(r, "", "", "a=p", "a=q", "b=p", "b=r", "a=p b=p", "a=q b=r")) }
	for range 1000 {
		l := api.Lexicon{
			Vowels: "a",
			Traits: []api.Trait{{Name: "b", Values: pick(r, []string{"p", "r"}, []string{"r", "p"}, []string{"p"})}, {Name: "a", Values: pick(r, []string{"p", "q"}, []string{"q"})}},
			Spells: some(r, 1, func() api.Spell { return api.Spell{From: pick(r, "x+", "s", "+"), To: pick(r, "", "y+", "as")} }),
			Links:  some(r, 2, func() api.Link { return api.Link{Class: pick(r, "n", "v"), Glue: pick(r, "", "s"), Feats: feats()} }),
		}
		for _, name := range []string{"n", "v"} {
			slots := some(r, 2, func() api.Slot { return api.Slot{Cut: pick(r, 0, 0, 2), Add: pick(r, "", "s", "a"), Feats: feats()} })
			l.Classes = append(l.Classes, api.Class{Name: name, Slots: append(slots, api.Slot{})})
		}
		for _, lemma := range []string{"x", "y", pick(r, "z", "x")} {
			n := api.Entry{Lemma: lemma, Class: pick(r, "n", "v"), Feats: feats()}
			n.Forms = some(r, 1, func() api.Irregular { return api.Irregular{Slot: r.IntN(2), Word: pick(r, "", "w")} })
			l.Entries = append(l.Entries, n)
		}
		if morph.Check(l) == api.OK {
			return l
		}
	}
	t.Fatal("no lexicon is valid")
	return api.Lexicon{}
}

func anyPart(r *rand.Rand) api.Part {
	if r.IntN(2) == 0 {
		return api.Part{Cat: pick(r, names...)}
	}
	return api.Part{From: pick(r, "x", "y"), To: pick(r, "x", "y")}
}

func anyPath(r *rand.Rand, parts int) api.Path {
	return api.Path{Node: r.IntN(parts + 1), Target: r.IntN(2) == 0, Name: pick(r, "a", "b")}
}

// anyItems puts parts in some order, with words between them.
func anyItems(r *rand.Rand, parts int, words ...string) []api.Item {
	var out []api.Item
	for _, i := range r.Perm(parts) {
		out = append(out, api.Item{Part: i + 1})
	}
	for range r.IntN(3) {
		out = slices.Insert(out, r.IntN(len(out)+1), api.Item{Word: pick(r, words...)})
	}
	return out
}

func anyRule(r *rand.Rand) api.Rule {
	out := api.Rule{Left: pick(r, names...), Parts: some(r, 3, func() api.Part { return anyPart(r) }), Cost: r.IntN(5)}
	parts := len(out.Parts)
	out.Source, out.Target = anyItems(r, parts, "x", "1"), anyItems(r, parts, "u", "=")
	out.Equations = some(r, 4, func() api.Equation {
		if r.IntN(3) == 0 {
			return api.Equation{A: anyPath(r, parts), Value: pick(r, "p", "q", "r")}
		}
		return api.Equation{A: anyPath(r, parts), B: anyPath(r, parts)}
	})
	return out
}

// anySystem makes a valid system.
func anySystem(t *testing.T, r *rand.Rand) api.System {
	t.Helper()
	s := api.System{Source: anyLexicon(t, r), Target: anyLexicon(t, r), Start: pick(r, names...)}
	for range 3 + r.IntN(6) {
		more := s
		more.Rules = append(slices.Clone(s.Rules), anyRule(r))
		if grammar.Check(more) == api.OK {
			s = more
		}
	}
	accepted(t, s)
	return s
}

// anyLeaf makes a lexical tree, mostly with the lemmas of a part.
func anyLeaf(r *rand.Rand, s api.System, p api.Part) api.Tree {
	entry := func(l api.Lexicon, lemma string) int {
		n := r.IntN(len(l.Entries))
		for range 5 {
			if l.Entries[n].Lemma != lemma {
				n = r.IntN(len(l.Entries))
			}
		}
		return n
	}
	t := leaf(entry(s.Source, p.From), r.IntN(3), entry(s.Target, p.To), r.IntN(3))
	if r.IntN(6) == 0 {
		t.From.Firsts = some(r, 2, func() api.First { return api.First{Entry: r.IntN(3), Slot: r.IntN(3), Link: r.IntN(2)} })
	}
	if r.IntN(40) == 0 {
		t.Kids = []api.Tree{{}}
	}
	return t
}

// anyTree makes a tree that mostly is of a category, and at most so deep.
func anyTree(r *rand.Rand, s api.System, cat string, depth int) api.Tree {
	n := r.IntN(len(s.Rules))
	for range 10 {
		if s.Rules[n].Left != cat || len(s.Rules[n].Parts) > depth {
			n = r.IntN(len(s.Rules))
		}
	}
	t := api.Tree{Rule: n}
	for _, p := range s.Rules[n].Parts {
		if p.Cat == "" {
			t.Kids = append(t.Kids, anyLeaf(r, s, p))
		} else if depth > 1 {
			t.Kids = append(t.Kids, anyTree(r, s, p.Cat, depth-1))
		}
	}
	if r.IntN(60) == 0 {
		t = pick(r, api.Tree{Rule: n, Entry: 1, Kids: t.Kids}, api.Tree{Rule: len(s.Rules), Kids: t.Kids}, api.Tree{Rule: -2}, api.Tree{Rule: n, Kids: slices.Clone(t.Kids[:len(t.Kids)/2])})
	}
	return t
}

func someSystem(t *testing.T, r *rand.Rand) api.System {
	t.Helper()
	for {
		if s := anySystem(t, r); len(s.Rules) > 0 {
			return s
		}
	}
}

// anyPair makes a pair of bundles of the lexicons.
func anyPair(r *rand.Rand, s api.System) grammar.Pair {
	bundle := func(l api.Lexicon) []api.Feat {
		for {
			out := some(r, 2, func() api.Feat { return api.Feat{Name: pick(r, "a", "b"), Value: pick(r, "p", "q", "r")} })
			if morph.Bundle(l, out) == api.OK {
				return out
			}
		}
	}
	return grammar.Pair{Source: bundle(s.Source), Target: bundle(s.Target)}
}

// solvedBy solves a rule by letting values go along equations until no more do.
func solvedBy(s api.System, r api.Rule, parts []grammar.Pair) (grammar.Pair, bool) {
	found := map[api.Path]map[string]bool{}
	put := func(p api.Path, v string) bool {
		if found[p][v] {
			return false
		}
		if found[p] == nil {
			found[p] = map[string]bool{}
		}
		found[p][v] = true
		return true
	}
	for i, x := range parts {
		for _, f := range x.Source {
			put(api.Path{Node: i + 1, Name: f.Name}, f.Value)
		}
		for _, f := range x.Target {
			put(api.Path{Node: i + 1, Target: true, Name: f.Name}, f.Value)
		}
	}
	for more := true; more; {
		more = false
		for _, q := range r.Equations {
			if q.Value != "" {
				more = put(q.A, q.Value) || more
				continue
			}
			for _, v := range []string{"p", "q", "r"} {
				more = found[q.A][v] && put(q.B, v) || more
				more = found[q.B][v] && put(q.A, v) || more
			}
		}
	}
	var out grammar.Pair
	for _, target := range []bool{false, true} {
		l, to := s.Source, &out.Source
		if target {
			l, to = s.Target, &out.Target
		}
		for node := range len(r.Parts) + 1 {
			for _, name := range []string{"a", "b"} {
				for v := range found[api.Path{Node: node, Target: target, Name: name}] {
					if len(found[api.Path{Node: node, Target: target, Name: name}]) > 1 || morph.Bundle(l, []api.Feat{{Name: name, Value: v}}) != api.OK {
						return grammar.Pair{}, false
					}
					if node == 0 {
						*to = append(*to, api.Feat{Name: name, Value: v})
					}
				}
			}
		}
	}
	return out, true
}

// P3.3: Solve by another way.
func TestSolveAgain(t *testing.T) {
	r := dice()
	clashes, solved := 0, 0
	for range 10 * rounds {
		s := someSystem(t, r)
		n := r.IntN(len(s.Rules))
		var parts []grammar.Pair
		for range s.Rules[n].Parts {
			parts = append(parts, anyPair(r, s))
		}
		want, ok := solvedBy(s, s.Rules[n], parts)
		got, e := grammar.Solve(s, n, parts)
		if ok != (e == api.OK) || !ok && e != api.ErrClash || !samePair(got, want) {
			t.Fatalf("%v: %v: %v, error %d, want %v, %v", s.Rules[n], parts, got, e, want, ok)
		}
		if !ok {
			clashes++
		} else if len(got.Source)+len(got.Target) > 0 {
			solved++
		}
	}
	if clashes < rounds || solved < rounds {
		t.Errorf("just %d clashes, and %d pairs with features", clashes, solved)
	}
}

// readBy is the reading of a tree for a part, as the chapter defines it.
func readBy(s api.System, t api.Tree, p api.Part) (api.Reading, api.Errno) {
	if p.Cat == "" {
		return readLexicalBy(s, t, p)
	}
	if t.Rule < 0 || t.Rule >= len(s.Rules) || len(t.From.Firsts) > 0 || t.From.Entry != 0 || t.From.Slot != 0 || t.Entry != 0 || t.Slot != 0 {
		return api.Reading{}, api.ErrArg
	}
	r := s.Rules[t.Rule]
	if len(t.Kids) != len(r.Parts) {
		return api.Reading{}, api.ErrArg
	}
	for i, p := range r.Parts {
		k := t.Kids[i].Rule
		if p.Cat == "" && k != -1 || p.Cat != "" && (k < 0 || k >= len(s.Rules) || s.Rules[k].Left != p.Cat) {
			return api.Reading{}, api.ErrArg
		}
	}
	out := api.Reading{Cat: r.Left, Cost: r.Cost}
	var parts []grammar.Pair
	var kids []api.Reading
	for i, p := range r.Parts {
		kid, e := readBy(s, t.Kids[i], p)
		if e != api.OK {
			return api.Reading{}, e
		}
		kids, parts = append(kids, kid), append(parts, grammar.Pair{Source: kid.Left, Target: kid.Right})
		out.Cost += kid.Cost
	}
	left, ok := solvedBy(s, r, parts)
	if !ok {
		return api.Reading{}, api.ErrClash
	}
	out.Left, out.Right = left.Source, left.Target
	for _, x := range r.Source {
		if x.Part > 0 {
			out.Source = append(out.Source, kids[x.Part-1].Source...)
		} else {
			out.Source = append(out.Source, x.Word)
		}
	}
	for _, x := range r.Target {
		if x.Part > 0 {
			out.Target = append(out.Target, kids[x.Part-1].Target...)
		} else {
			out.Target = append(out.Target, x.Word)
		}
	}
	return out, api.OK
}

func readLexicalBy(s api.System, t api.Tree, p api.Part) (api.Reading, api.Errno) {
	if len(t.Kids) > 0 {
		return api.Reading{}, api.ErrArg
	}
	word, e := morph.Build(s.Source, t.From)
	if e != api.OK || s.Source.Entries[t.From.Entry].Lemma != p.From {
		return api.Reading{}, api.ErrNone
	}
	form, e := morph.Form(s.Target, t.Entry, t.Slot)
	if e != api.OK || s.Target.Entries[t.Entry].Lemma != p.To {
		return api.Reading{}, api.ErrNone
	}
	left, _ := morph.Feats(s.Source, t.From.Entry, t.From.Slot)
	right, _ := morph.Feats(s.Target, t.Entry, t.Slot)
	return api.Reading{Source: []string{word}, Target: []string{form}, Left: left, Right: right}, api.OK
}

// P3.4, P3.8: Derive by another way; the cost is that of all nodes.
func TestDeriveAgain(t *testing.T) {
	r := dice()
	count := map[api.Errno]int{}
	for range 3 * rounds {
		s := someSystem(t, r)
		for range 20 {
			x := anyTree(r, s, pick(r, names...), 4)
			want, wantError := readBy(s, x, api.Part{Cat: "any"})
			got, e := grammar.Derive(s, x)
			if e != wantError || !sameReading(got, want) {
				t.Fatalf("%v: %v: %v, error %d, want %v, error %d", s, x, got, e, want, wantError)
			}
			if e == api.OK && got.Cost != costOf(s, x) {
				t.Fatalf("%v: cost %d", x, got.Cost)
			}
			if len(x.Kids) > 0 {
				count[e]++
			}
		}
	}
	for _, e := range []api.Errno{api.OK, api.ErrArg, api.ErrNone, api.ErrClash} {
		if count[e] < rounds {
			t.Errorf("just %d trees had the error %d", count[e], e)
		}
	}
}

func costOf(s api.System, x api.Tree) int {
	if x.Rule == -1 {
		return 0
	}
	cost := s.Rules[x.Rule].Cost
	for _, k := range x.Kids {
		cost += costOf(s, k)
	}
	return cost
}

// P3.7, P3.8: a system that is reversed twice is as it was; flipped trees have, in the reversed system, the readings with both sides exchanged.
func TestReverseAgain(t *testing.T) {
	r := dice()
	reversed, derived := 0, 0
	for range 10 * rounds {
		s := someSystem(t, r)
		back, e := grammar.Reverse(s)
		if e != api.OK {
			empty := slices.ContainsFunc(s.Rules, func(r api.Rule) bool { return len(r.Target) == 0 })
			if empty && e != api.ErrArg || !empty && e != api.ErrLoop || !isZero(back) {
				t.Fatalf("%v: error %d", s, e)
			}
			continue
		}
		reversed++
		accepted(t, back)
		if again, e := grammar.Reverse(back); e != api.OK || !sameSystem(again, s) {
			t.Fatalf("%v: %v, error %d", s, again, e)
		}
		for range 10 {
			x := anyTree(r, s, pick(r, names...), 4)
			flipped, e := grammar.Flip(x)
			if e != api.OK {
				if e != api.ErrScope || !sameTree(flipped, api.Tree{}) {
					t.Fatalf("%v: error %d", x, e)
				}
				continue
			}
			if again, e := grammar.Flip(flipped); e != api.OK || !sameTree(again, x) {
				t.Fatalf("%v: %v, error %d", x, again, e)
			}
			there, e := grammar.Derive(s, x)
			here, f := grammar.Derive(back, flipped)
			there.Source, there.Target, there.Left, there.Right = there.Target, there.Source, there.Right, there.Left
			if (e == api.OK) != (f == api.OK) || !sameReading(there, here) {
				t.Fatalf("%v: %v, error %d, and %v, error %d", x, there, e, here, f)
			}
			if e == api.OK {
				derived++
			}
		}
	}
	if reversed < rounds || derived < rounds {
		t.Errorf("just %d systems, and %d trees", reversed, derived)
	}
}

// P3.5, P3.8: the text of a tree is read as that tree.
func TestWriteAndRead(t *testing.T) {
	r := dice()
	written := 0
	for range 10 * rounds {
		x := anyTree(r, someSystem(t, r), "A", 5)
		text, e := grammar.Write(x)
		if e != api.OK {
			if e != api.ErrArg || text != "" {
				t.Fatalf("%v: %q, error %d", x, text, e)
			}
			continue
		}
		written++
		if got, e := grammar.Read(text); e != api.OK || !sameTree(got, x) {
			t.Fatalf("%v: %q: %v, error %d", x, text, got, e)
		}
		if nodes, _ := grammar.Nodes(x); nodes != strings.Count(text, "(")+strings.Count(text, "[") {
			t.Fatalf("%q: %d nodes", text, nodes)
		}
	}
	if written < rounds {
		t.Errorf("just %d trees were written", written)
	}
}

// P3.5: a text that is read is the text of what was read.
func TestReadAndWrite(t *testing.T) {
	r := dice()
	accepted := 0
	for range 100 * rounds {
		text := pick(r, theTree, "[0.1.2 10.20.30 4 5 > 6 7]", "(0 (1))", "(1 [1 2 > 3 4] (5 [6.7.8 9 10 > 11 12]) (13))")
		for range 1 + r.IntN(2) {
			i := r.IntN(len(text))
			end := i + r.IntN(min(4, len(text)-i)+1)
			text = text[:i] + pick(r, "", "", "0", "1", " ", "(", ")", "[", "]", ".", " > ", "(0)", " (0)", "[0 0 > 0 0]", "-1", "0.0.0 ", "99999999999") + text[end:]
			if text == "" {
				break
			}
		}
		x, e := grammar.Read(text)
		if e != api.OK {
			if e != api.ErrForm || !sameTree(x, api.Tree{}) {
				t.Fatalf("%q: %v, error %d", text, x, e)
			}
			continue
		}
		accepted++
		if got, e := grammar.Write(x); e != api.OK || got != text {
			t.Fatalf("%q became %q, error %d", text, got, e)
		}
	}
	if accepted < rounds {
		t.Errorf("just %d texts were accepted", accepted)
	}
}

// P3.5, P3.8: the order of trees is total, and trees whose texts are equal are equal in it.
func TestOrderOfTrees(t *testing.T) {
	r := dice()
	s := someSystem(t, r)
	var trees []api.Tree
	texts := map[string]bool{}
	for len(trees) < 60 {
		x := anyTree(r, s, pick(r, names...), 3)
		if r.IntN(3) == 0 {
			x = anyLeaf(r, s, anyPart(r))
		}
		if text, e := grammar.Write(x); e == api.OK && !texts[text] {
			texts[text] = true
			trees = append(trees, x)
		}
	}
	for i, x := range trees {
		for j, y := range trees {
			c := grammar.Compare(x, y)
			if (c == 0) != (i == j) || c != -grammar.Compare(y, x) || c < -1 || c > 1 {
				t.Fatalf("%v and %v: %d, %d", x, y, c, grammar.Compare(y, x))
			}
			for _, z := range trees {
				if c < 0 && grammar.Compare(y, z) < 0 && grammar.Compare(x, z) >= 0 {
					t.Fatalf("%v, %v and %v", x, y, z)
				}
			}
		}
	}
}

// P3.2, P3.8: the text of a valid system's rules, with its lexicons, is parsed as that system.
func TestTextThereAndBack(t *testing.T) {
	r := dice()
	for range 10 * rounds {
		s := anySystem(t, r)
		text := printed(t, s)
		if got, line, e := grammar.Parse(s.Source, s.Target, text); e != api.OK || line != 0 || !sameSystem(got, s) {
			t.Fatalf("%v became %v, line %d, error %d", s, got, line, e)
		}
	}
}

// P3.2: a text that is parsed is printed as it was, without the lines that are passed over.
func TestTextBackAndThere(t *testing.T) {
	r := dice()
	accepted := 0
	for range 50 * rounds {
		lines := strings.Split(pick(r, soundText, soundText, oddText), "\n")
		for range 1 + r.IntN(3) {
			i := r.IntN(len(lines))
			words := strings.Split(lines[i], " ")
			j := r.IntN(len(words))
			switch r.IntN(6) {
			case 0:
				lines = slices.Delete(lines, i, i+1)
			case 1:
				lines = slices.Insert(lines, i, pick(r, lines...))
			case 2:
				lines = slices.Insert(lines, i, pick(r, "", ";", "; x", " ", "has 0.s.num sg", "same 0.t.gen 0.t.gen"))
			case 3:
				words[j] = pick(r, "-", "=a", "0", "1", "00", "0.s.num", "NP", "", "=", "0.s.", "pl")
				lines[i] = strings.Join(words, " ")
			case 4:
				lines[i] = strings.Join(slices.Delete(words, j, j+1), " ")
			case 5:
				lines[i] = strings.Join(slices.Insert(words, j, pick(r, "=a", "1", "x", "")), " ")
			}
			if len(lines) == 0 {
				break
			}
		}
		text := strings.Join(lines, "\n")
		want := ""
		for _, s := range lines {
			if s != "" && s[0] != ';' {
				want += s + "\n"
			}
		}
		s, line, e := grammar.Parse(sound().Source, sound().Target, text)
		if e != api.OK {
			if !isZero(s) || line < 0 || line > len(lines) || e != api.ErrForm && line != 0 {
				t.Fatalf("%q: %v, line %d, error %d", text, s, line, e)
			}
			continue
		}
		accepted++
		if got := printed(t, s); got != want || line != 0 {
			t.Fatalf("%q became %q", text, got)
		}
	}
	if accepted < rounds {
		t.Errorf("just %d texts were accepted", accepted)
	}
}

// P3.1: systems of chains: a way back is found by going along them.
func TestLoopsAgain(t *testing.T) {
	r := dice()
	loops := 0
	for range 10 * rounds {
		cats := []string{"A", "B", "C", "D", "E"}
		var rules []api.Rule
		leads := map[[2]string]bool{}
		for range r.IntN(6) {
			x, y := pick(r, cats...), pick(r, cats...)
			rules = append(rules, chained(x, y))
			leads[[2]string{x, y}] = true
		}
		for _, by := range cats {
			for _, x := range cats {
				for _, y := range cats {
					if leads[[2]string{x, by}] && leads[[2]string{by, y}] {
						leads[[2]string{x, y}] = true
					}
				}
			}
		}
		want := api.OK
		for _, x := range cats {
			if leads[[2]string{x, x}] {
				want = api.ErrLoop
			}
		}
		if e := grammar.Check(withRules(rules...)); e != want {
			t.Fatalf("%v: error %d, want %d", rules, e, want)
		}
		if want != api.OK {
			loops++
		}
	}
	if loops < rounds {
		t.Errorf("just %d loops", loops)
	}
}

// P3.6: the rules that stand in skeletons of trees, which are built from below.
func TestUsefulAgain(t *testing.T) {
	r := dice()
	useless := 0
	for range 10 * rounds {
		s := anySystem(t, r)
		made := map[string]bool{"": true}
		whole := func(r api.Rule) bool {
			for _, p := range r.Parts {
				if !made[p.Cat] {
					return false
				}
			}
			return true
		}
		for range names {
			for _, r := range s.Rules {
				made[r.Left] = made[r.Left] || whole(r)
			}
		}
		reached := []string{s.Start}
		for i := 0; i < len(reached); i++ {
			for _, r := range s.Rules {
				for _, p := range r.Parts {
					if r.Left == reached[i] && whole(r) && !slices.Contains(reached, p.Cat) {
						reached = append(reached, p.Cat)
					}
				}
			}
		}
		var want []int
		for i, r := range s.Rules {
			if whole(r) && slices.Contains(reached, r.Left) {
				want = append(want, i)
			} else {
				useless++
			}
		}
		if got, e := grammar.Useful(s); e != api.OK || !slices.Equal(got, want) {
			t.Fatalf("%v: %v, error %d, want %v", s, got, e, want)
		}
	}
	if useless < rounds {
		t.Errorf("just %d rules were useless", useless)
	}
}

// P3.6: Moves by the order of parts alone; a reversed rule has as many.
func TestMovesAgain(t *testing.T) {
	r := dice()
	moved := 0
	for range 10 * rounds {
		s := someSystem(t, r)
		n := r.IntN(len(s.Rules))
		order := func(l []api.Item) []int {
			var out []int
			for _, x := range l {
				if x.Part > 0 {
					out = append(out, x.Part)
				}
			}
			return out
		}
		source, target := order(s.Rules[n].Source), order(s.Rules[n].Target)
		want := 0
		for i, x := range source {
			for _, y := range source[i+1:] {
				if slices.Index(target, x) > slices.Index(target, y) {
					want++
				}
			}
		}
		if got, e := grammar.Moves(s, n); e != api.OK || got != want {
			t.Fatalf("%v: %d, error %d, want %d", s.Rules[n], got, e, want)
		}
		moved += want
		if back, e := grammar.Reverse(s); e == api.OK {
			if got, e := grammar.Moves(back, n); e != api.OK || got != want {
				t.Fatalf("%v reversed: %d, error %d, want %d", s.Rules[n], got, e, want)
			}
		}
	}
	if moved < rounds {
		t.Errorf("just %d moves", moved)
	}
}

// anything makes a system that need not be valid.
func anything(r *rand.Rand) api.System {
	if r.IntN(2) == 0 { // one that has few errors
		s := sound()
		pick(r, faults()...).spoil(&s)
		return s
	}
	text := func() string {
		return pick(r, "a", "num", "S", "NP", "dog", "hund", "", "\xff", "A b", strings.Repeat("x", 30))
	}
	number := func() int { return pick(r, -1<<63, -1, 0, 1, 2, 1<<63-1) }
	item := func() api.Item { return api.Item{Part: number(), Word: text()} }
	anyPath := func() api.Path { return api.Path{Node: number(), Target: r.IntN(2) == 0, Name: text()} }
	return api.System{
		Source: sound().Source, Target: pick(r, sound().Target, api.Lexicon{}, api.Lexicon{Vowels: "ba"}), Start: text(),
		Rules: some(r, 3, func() api.Rule {
			return api.Rule{
				Left: text(), Cost: number(), Source: some(r, 2, item), Target: some(r, 2, item),
				Parts:     some(r, 2, func() api.Part { return api.Part{Cat: text(), From: text(), To: text()} }),
				Equations: some(r, 1, func() api.Equation { return api.Equation{A: anyPath(), B: anyPath(), Value: text()} }),
			}
		}),
	}
}

// anyOddTree makes a tree of any numbers.
func anyOddTree(r *rand.Rand, depth int) api.Tree {
	number := func() int { return pick(r, -1<<63, -2, -1, -1, 0, 0, 1, 2, 1<<31, 1<<63-1) }
	t := api.Tree{Rule: number(), Entry: number(), Slot: number(), From: api.Analysis{Entry: number(), Slot: number()}}
	t.From.Firsts = some(r, 1, func() api.First { return api.First{Entry: number(), Slot: number(), Link: number()} })
	if depth > 0 {
		t.Kids = some(r, 3, func() api.Tree { return anyOddTree(r, depth-1) })
	}
	return t
}

// P0.1: any arguments are answered; the system's error comes first, with zero values beside it; no argument is changed.
func TestAnyArguments(t *testing.T) {
	r := dice()
	for range 30 * rounds {
		s := anything(r)
		firstError := grammar.Check(s)
		x, y := anyOddTree(r, 3), anyOddTree(r, 3)
		was := cloned(x)
		n := pick(r, -1<<63, -1, 0, 1, 1<<63-1)
		text := pick(r, "", "start S", "start S\nrule", "\xff", theTree, "(")
		check := func(name string, zero bool, e, first api.Errno) {
			t.Helper()
			if e != api.OK && !zero || first != api.OK && e != first {
				t.Fatalf("%v: %s: error %d, want %d, zero: %v", s, name, e, first, zero)
			}
		}
		back, line, e := grammar.Parse(s.Source, s.Target, text)
		check("Parse", isZero(back) && (line == 0 || e == api.ErrForm), e, api.OK)
		printed, e := grammar.Print(s)
		check("Print", printed == "", e, firstError)
		left, e := grammar.Solve(s, n, pairs("num=sg /", "x=y / x=y"))
		check("Solve", samePair(left, grammar.Pair{}), e, firstError)
		reading, e := grammar.Derive(s, x)
		check("Derive", sameReading(reading, api.Reading{}), e, firstError)
		chains, e := grammar.Chains(s)
		check("Chains", len(chains) == 0, e, firstError)
		useful, e := grammar.Useful(s)
		check("Useful", len(useful) == 0, e, firstError)
		moves, e := grammar.Moves(s, n)
		check("Moves", moves == 0, e, firstError)
		back, e = grammar.Reverse(s)
		check("Reverse", isZero(back), e, firstError)
		out, e := grammar.Write(x)
		check("Write", out == "", e, api.OK)
		read, e := grammar.Read(text)
		check("Read", sameTree(read, api.Tree{}), e, api.OK)
		flipped, e := grammar.Flip(x)
		check("Flip", sameTree(flipped, api.Tree{}), e, api.OK)
		if c := grammar.Compare(x, y); c < -1 || c > 1 || c != -grammar.Compare(y, x) || grammar.Compare(x, x) != 0 {
			t.Fatalf("%v and %v: %d", x, y, c)
		}
		if !sameTree(x, was) || grammar.Check(s) != firstError {
			t.Fatal("an argument was changed")
		}
	}
}

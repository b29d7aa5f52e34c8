package chart_test

import (
	"slices"
	"strconv"
	"strings"
	"testing"

	"truchman/api"
	"truchman/chart"
	"truchman/grammar"
)

// P4.1, P4.2: the example of the chapter.
func TestExample(t *testing.T) {
	linesAre(t, parsed(t, given(), theWords), `
		0 1-2 [0 0 > 0 0]
		1 1-2 [0 0 > 0 1]
		2 2-3 [2 0 > 2 0]
		3 4-5 [0 1 > 0 0]
		4 4-5 [0 1 > 0 1]
		5 0-2 NP / num=sg: 1[0]
		6 3-5 NP / num=pl: 1[4]
		7 2-5 VP /: 2[2 6]
		8 0-5 S /: 0[5 7] goal`)
	linesAre(t, parsed(t, given(), "the dog"), `
		0 1-2 [0 0 > 0 0]
		1 1-2 [0 0 > 0 1]
		2 0-2 NP / num=sg: 1[0]`)
}

// P4.1: sentences without words, and such as nothing derives.
func TestParseNothing(t *testing.T) {
	for _, s := range []api.System{given(), ruled("start S\n"), ruled("start S\nrule S 0\nsource =a\ntarget\n")} {
		for _, words := range [][]string{nil, {}, {"!"}, {strings.Repeat("~", 24)}, {"the"}, {"The"}} {
			f, e := chart.Parse(s, words)
			if e != api.OK || f == nil || f.Len() != 0 || len(f.Goals()) != 0 {
				t.Errorf("%q: error %d", words, e)
				continue
			}
			if _, e := f.Item(0); e != api.ErrNone {
				t.Errorf("%q: error %d", words, e)
			}
			if n := f.Find(tree("(0)")); n != -1 {
				t.Errorf("%q: found %d", words, n)
			}
			if g := pruned(t, f, 0); g.Len() != 0 || len(g.Goals()) != 0 {
				t.Errorf("%q: %d items", words, g.Len())
			}
		}
	}
}

// P4.1: rules of words alone, as long as may be, and words between parts.
func TestParseWords(t *testing.T) {
	s := ruled(`start S
rule S 1
source =a =b =c =d =e =f =g =h
target
rule S 2
cat A
source =a 1 =b
target 1
rule A 3
source =a
target =1
rule A 4
source =a =a
target =1
rule A 5
source =b
target =1
`)
	linesAre(t, parsed(t, s, "a b c d e f g h"), `
		0 0-1 A /: 2[]
		1 1-2 A /: 4[]
		2 0-8 S /: 0[] goal`)
	linesAre(t, parsed(t, s, "a b c d e f g"), `
		0 0-1 A /: 2[]
		1 1-2 A /: 4[]`)
	linesAre(t, parsed(t, s, "a a a b"), `
		0 0-1 A /: 2[]
		1 1-2 A /: 2[]
		2 2-3 A /: 2[]
		3 3-4 A /: 4[]
		4 0-2 A /: 3[]
		5 1-3 A /: 3[]
		6 1-4 S /: 1[2]
		7 0-4 S /: 1[5] goal`)
	linesAre(t, parsed(t, s, "a b b"), `
		0 0-1 A /: 2[]
		1 1-2 A /: 4[]
		2 2-3 A /: 4[]
		3 0-3 S /: 1[1] goal`)
}

// P4.1: parts stand in the order of Source, but kids in that of parts.
func TestParseOrder(t *testing.T) {
	s := ruled(`start S
rule S 0
cat B
cat A
cat C
source 2 =x 3 1
target 1 2 3
rule A 0
source =a
target
rule B 0
source =b
target
rule C 0
source =c
target
rule C 0
source =c =c
target
`)
	linesAre(t, parsed(t, s, "a x c c b"), `
		0 0-1 A /: 1[]
		1 2-3 C /: 3[]
		2 3-4 C /: 3[]
		3 4-5 B /: 2[]
		4 2-4 C /: 4[]
		5 0-5 S /: 0[3 0 4] goal`)
	for _, words := range []string{"b x c a", "a c b", "a x b c", "a x c", "x c b"} {
		if f := parsed(t, s, words); len(f.Goals()) != 0 {
			t.Error(words)
		}
	}
}

// P4.1: all choices of items for as many parts as may be.
func TestParseChoices(t *testing.T) {
	s := system(plainText, "vowels a\nclass n\nslot 0 - -\nslot 0 - -\nentry x n\n", `start S
rule S 0
lex x x
lex x x
lex x x
lex x x
source 4 2 3 1
target 1 2 3 4
`)
	f := parsed(t, s, "x x x x")
	edges, e := f.Edges(8)
	if e != api.OK || f.Len() != 9 || len(edges) != 16 || f.Count(8) != 16 {
		t.Fatal(f.Len(), edges, e)
	}
	for i, g := range edges {
		if bit := func(n int) int { return i >> n & 1 }; !slices.Equal(g.Kids, []int{6 + bit(3), 2 + bit(2), 4 + bit(1), bit(0)}) {
			t.Error(i, g)
		}
	}
}

// P4.1: chains within one span, in whichever order their rules and their categories stand.
func TestParseChains(t *testing.T) {
	rules := []string{
		"rule S 1\ncat B\nsource 1\ntarget 1\nsame 0.s.f 1.s.f\n",
		"rule S 0\ncat T\nsource 1\ntarget 1\n",
		"rule B 2\ncat A\nsource 1\ntarget 1\nhas 0.s.f p\n",
		"rule B 2\ncat T\nsource 1\ntarget 1\nhas 0.s.f q\n",
		"rule A 3\ncat T\nsource 1\ntarget 1\n",
		"rule T 4\nsource =a =b\ntarget\n",
		"rule A 5\nlex x x\nsource 1\ntarget 1\n",
	}
	linesAre(t, parsed(t, ruled("start S\n"+strings.Join(rules, "")), "a b"), `
		0 0-2 A /: 4[6]
		1 0-2 B f=p /: 2[0]
		2 0-2 B f=q /: 3[6]
		3 0-2 S /: 1[6] goal
		4 0-2 S f=p /: 0[1] goal
		5 0-2 S f=q /: 0[2] goal
		6 0-2 T /: 5[]`)
	linesAre(t, parsed(t, ruled("start S\n"+strings.Join(rules, "")), "x"), `
		0 0-1 [0 0 > 0 0]
		1 0-1 A /: 6[0]
		2 0-1 B f=p /: 2[1]
		3 0-1 S f=p /: 0[2] goal`)
	r := dice()
	for range rounds {
		r.Shuffle(len(rules), func(i, j int) { rules[i], rules[j] = rules[j], rules[i] })
		f := parsed(t, ruled("start S\n"+strings.Join(rules, "")), "a b")
		costs := []int{}
		for n := range f.Len() {
			costs = append(costs, inside(t, f, n))
		}
		if !slices.Equal(costs, []int{7, 9, 6, 4, 10, 7, 4}) {
			t.Fatal(rules, costs)
		}
	}
}

// P4.1: long ways of chains, with rules in either order.
func TestParseLongChain(t *testing.T) {
	var rules []string
	for i := range 95 {
		rules = append(rules, "rule C"+strconv.Itoa(i)+" 1\ncat C"+strconv.Itoa(i+1)+"\nsource 1\ntarget 1\n")
	}
	rules = append(rules, "rule C95 7\nsource =a\ntarget =b\n")
	for range 2 {
		f := parsed(t, ruled("start C0\n"+strings.Join(rules, "")), "a")
		goals := f.Goals()
		if f.Len() != 96 || len(goals) != 1 || f.Count(goals[0]) != 1 || inside(t, f, goals[0]) != 102 {
			t.Error(f.Len(), goals)
		}
		if cost, e := f.Outside(numberOf(t, f, "C95")); cost != 95 || e != api.OK {
			t.Error(cost, e)
		}
		slices.Reverse(rules)
	}
}

// P4.1, P4.2: items that differ by their bundles alone, in the order of these.
func TestParseBundles(t *testing.T) {
	s := ruled(`start S
rule S 1
source =a
target
rule S 1
source =a
target
has 0.s.f q
rule S 1
source =a
target
has 0.s.f p
has 0.s.g q
rule S 1
source =a
target
has 0.s.g p
rule S 1
source =a
target
has 0.s.f p
rule S 1
source =a
target
has 0.s.f q
rule S 1
source =a
target
has 0.t.f p
rule S 1
source =a
target
has 0.s.f p
has 0.t.f r
has 0.t.g p
rule S 1
source =a
target
has 0.s.f p
has 0.t.f q
`)
	linesAre(t, parsed(t, s, "a"), `
		0 0-1 S /: 0[] goal
		1 0-1 S / f=p: 6[] goal
		2 0-1 S f=p /: 4[] goal
		3 0-1 S f=p / f=q: 8[] goal
		4 0-1 S f=p / f=r g=p: 7[] goal
		5 0-1 S f=p g=q /: 2[] goal
		6 0-1 S f=q /: 1[] 5[] goal
		7 0-1 S g=p /: 3[] goal`)
}

// P4.1: features go up where equations say so, and parts of which they say nothing are all the same to a rule.
func TestParseFeatures(t *testing.T) {
	s := ruled(`start S
rule S 1
cat A
cat A
cat A
source 1 2 3
target 3 2 1
same 1.s.f 3.t.f
same 0.t.f 2.s.f
rule A 0
source =a
target
has 0.s.f p
rule A 0
source =a
target
has 0.t.f p
has 0.s.g q
rule A 0
source =a
target
has 0.t.f q
has 0.s.f q
`)
	f := parsed(t, s, "a a a")
	want := 0
	for _, one := range []string{"p", "", "q"} { // the source's f of each A
		for range 3 {
			for _, three := range []string{"", "p", "q"} { // the target's f of each A
				if one == three || one == "" || three == "" {
					want++
				}
			}
		}
	}
	trees := 0
	for _, n := range f.Goals() {
		trees += int(f.Count(n))
	}
	if trees != want || len(f.Goals()) != 3 || f.Len() != 12 {
		t.Error(trees, want, sheetOf(t, f).lines())
	}
}

// P4.1: a rule whose equations contradict each other derives nothing, and what contradicts in the parts neither.
func TestParseClashes(t *testing.T) {
	s := ruled(`start S
rule S 1
source =a
target
has 0.s.f q
has 0.s.f p
rule S 1
cat A
source 1
target 1
has 1.s.f p
rule S 1
cat A
cat A
source 1 2
target 1 2
same 1.s.f 0.t.g
rule A 0
source =a
target
has 0.s.f r
`)
	linesAre(t, parsed(t, s, "a a"), "0 0-1 A f=r /: 3[]\n1 1-2 A f=r /: 3[]")
}

// P4.1: lexical items: compounds, lemmas of several entries, forms that are missing, lexical parts of any rule.
func TestParseLexical(t *testing.T) {
	source := sourceText + "entry dogcat noun\nentry dog verb\nlink noun - num=sg\n"
	target := targetText + "form 0 -\nentry hund verb\n"
	s := system(source, target, `start S
rule S 1
lex dog hund
source 1
target 1
rule T 1
lex cat katz
source =no 1
target 1
rule T 1
lex cat hund
source =no =no 1
target 1
rule T 1
lex see seh
source 1
target 1
rule T 1
lex dog hund
source 1 =x
target 1
`)
	linesAre(t, parsed(t, s, "dogcat dog"), `
		0 0-1 [0.0.0 1 0 > 0 0]
		1 0-1 [0.0.0 1 0 > 0 1]
		2 0-1 [0.0.0 1 0 > 1 0]
		3 0-1 [0.0.0 1 0 > 1 1]
		4 0-1 [0.0.0 1 0 > 3 0]
		5 1-2 [0 0 > 0 0]
		6 1-2 [0 0 > 0 1]
		7 1-2 [0 0 > 3 0]
		8 1-2 [4 0 > 0 0]
		9 1-2 [4 0 > 0 1]
		10 1-2 [4 0 > 3 0]
		11 1-2 S /: 0[5] 0[6] 0[7] 0[8] 0[9] 0[10]`)
	linesAre(t, parsed(t, s, "see"), "") // the target has no form of it
	linesAre(t, parsed(t, s, "dogs x"), `
		0 0-1 [0 1 > 0 0]
		1 0-1 [0 1 > 0 1]
		2 0-1 [0 1 > 3 0]
		3 0-1 S /: 0[0] 0[1] 0[2]
		4 0-2 T /: 4[0] 4[1] 4[2]`)
}

// P4.1: the errors, in their order.
func TestParseErrors(t *testing.T) {
	crooked := given()
	crooked.Rules[2].Cost = -1
	loop := ruled("start S\n")
	loop.Rules = []api.Rule{{Left: "A", Parts: []api.Part{{Cat: "A"}}, Source: []api.Item{{Part: 1}}, Target: []api.Item{{Part: 1}}}}
	badLexicon := given()
	badLexicon.Target.Vowels = "ba"
	many, most := make([]string, 17), make([]string, 16)
	for i := range most {
		many[i], most[i] = "dog", "dog"
	}
	for _, x := range []struct {
		name  string
		s     api.System
		words []string
		e     api.Errno
	}{
		{"a cost below 0", crooked, nil, api.ErrArg},
		{"a circle", loop, nil, api.ErrLoop},
		{"no start", api.System{}, nil, api.ErrName},
		{"a lexicon", badLexicon, nil, api.ErrArg},
		{"the system comes first", loop, many, api.ErrLoop},
		{"17 words", given(), append(many[:16:16], "dog"), api.ErrLimit},
		{"17 words, one of which is none", given(), many, api.ErrLimit},
		{"16 words", given(), most, api.OK},
		{"an empty word", given(), []string{"the", ""}, api.ErrArg},
		{"a blank", given(), []string{"the dog"}, api.ErrArg},
		{"a byte below", given(), []string{"\x20"}, api.ErrArg},
		{"a byte above", given(), []string{"\x7f", "the"}, api.ErrArg},
		{"no UTF-8", given(), []string{"\xff"}, api.ErrArg},
		{"a long word", given(), []string{strings.Repeat("a", 25)}, api.ErrArg},
		{"the longest word", given(), []string{strings.Repeat("a", 24)}, api.OK},
	} {
		if f, e := chart.Parse(x.s, x.words); e != x.e || (f == nil) != (e != api.OK) {
			t.Errorf("%s: error %d, want %d", x.name, e, x.e)
		}
	}
}

// manyForms is the text of a lexicon where the lemma x has 16 classes with 16 slots each, and y has one class less one slot.
func manyForms() string {
	text := "vowels a\ntrait f p q\n"
	for i := range 16 {
		text += "class n" + strconv.Itoa(i) + "\n"
		for range 16 {
			text += "slot 0 - -\n"
		}
	}
	for _, lemma := range []string{"x", "y"} {
		for i := range 16 {
			text += "entry " + lemma + " n" + strconv.Itoa(i) + "\n"
		}
	}
	return text + "form 3 -\n"
}

const oneForm = "vowels a\ntrait f p q\nclass n\nslot 0 - -\nentry x n\nentry y n\nentry z n\n"

// P4.1: as many items as may be, and more.
func TestParseItems(t *testing.T) {
	lex := "rule L 0\nlex x x\nsource =no 1\ntarget 1\nrule L 0\nlex y y\nsource =no 1\ntarget 1\n"
	xs := strings.Repeat("x ", 15)
	for _, x := range []struct {
		name, rules, words string
		items              int // 0: too many
	}{
		{"lexical items", "", xs + "x", 4096},
		{"lexical items, and fewer of y", "", xs + "y", 4095},
		{"one item more", "rule A 0\nsource =y\ntarget\n", xs + "y", 4096},
		{"two more", "rule A 0\nsource =y\ntarget\nrule B 0\nsource =y\ntarget\n", xs + "y", 0},
		{"two more, by their bundles", "rule A 0\nsource =y\ntarget\nrule A 0\nsource =y\ntarget\nhas 0.s.f p\n", xs + "y", 0},
		{"another edge is no other item", "rule A 0\nsource =y\ntarget\nrule A 0\nsource =y\ntarget\n", xs + "y", 4096},
		{"one of a long span", "rule A 0\nsource =x =x\ntarget\n", "y " + xs, 0},
		{"of the longest span", "rule A 0\nsource =x =x =x =x =x =x =x =y\ntarget\n", xs + "y", 4096},
		{"more than that", "rule A 0\nsource =x =x =x =x =x =x =y\ntarget\nrule A 0\nsource =x =x =x =x =x =x =x =y\ntarget\n", xs + "y", 0},
	} {
		s := system(oneForm, manyForms(), "start S\n"+lex+x.rules)
		f, e := chart.Parse(s, strings.Fields(x.words))
		if x.items == 0 {
			if e != api.ErrLimit || f != nil {
				t.Errorf("%s: %d items, error %d", x.name, f.Len(), e)
			}
		} else if e != api.OK || f.Len() != x.items {
			t.Errorf("%s: %d items, error %d", x.name, f.Len(), e)
		}
	}
	// too many analyses of a single word
	s := system(manyForms(), manyForms(), "start S\n"+lex)
	if f, e := chart.Parse(s, []string{"x"}); e != api.ErrLimit || f != nil {
		t.Error(e)
	}
}

// edged is a system whose start has as many edges in three words as there are products of numbers of forms of x, y and z.
func edged(x, y, z int, rules string) api.System {
	text := "vowels a\ntrait f p q\n"
	for i, n := range []int{x, y, z} {
		for j := range (n + 23) / 24 {
			text += "class c" + strconv.Itoa(i) + "_" + strconv.Itoa(j) + "\n" + strings.Repeat("slot 0 - - f=p\n", min(24, n-24*j))
		}
	}
	for i, n := range []int{x, y, z} {
		for j := range (n + 23) / 24 {
			text += "entry " + []string{"x", "y", "z"}[i] + " c" + strconv.Itoa(i) + "_" + strconv.Itoa(j) + "\n"
		}
	}
	return system(oneForm, text, "start S\nrule S 0\nlex x x\nlex y y\nlex z z\nsource 1 2 3\ntarget 1 2 3\nsame 1.t.f 2.t.f\n"+rules)
}

// P4.1: as many edges as may be, and more.
func TestParseEdges(t *testing.T) {
	for _, x := range []struct {
		name    string
		s       api.System
		words   string
		edges   int // 0: too many
		classes int
	}{
		{"of one item", edged(32, 32, 32, ""), "x y z", 32768, 1},
		{"and one more", edged(32, 32, 32, "rule A 0\nsource =x\ntarget\n"), "x y z", 0, 0},
		{"and one more of the same item", edged(32, 32, 32, "rule S 0\nsource =x =y =z\ntarget\n"), "x y z", 0, 0},
		{"two spans of one length", edged(32, 32, 16, ""), "x y z x y z", 32768, 2},
		{"two spans of one length, and one more", edged(32, 32, 16, "rule A 0\nsource =z =x =y\ntarget\n"), "x y z x y z", 0, 0},
		{"and one of the longest span", edged(32, 32, 16, "rule S 0\ncat S\ncat S\nsource 1 2\ntarget 1 2\n"), "x y z x y z", 0, 0},
		{"a few less", edged(31, 32, 33, "rule S 0\nsource =x =y =z\ntarget\n"), "x y z", 31*32*33 + 1, 1},
		{"far too many", edged(100, 100, 100, ""), "x y z x y z x y z x y z x y z x", 0, 0},
	} {
		f, e := chart.Parse(x.s, strings.Fields(x.words))
		if x.edges == 0 {
			if e != api.ErrLimit || f != nil {
				t.Errorf("%s: error %d", x.name, e)
			}
			continue
		}
		edges, items := 0, 0
		for n := range f.Len() {
			l, _ := f.Edges(n)
			edges += len(l)
			items += min(len(l), 1)
		}
		if e != api.OK || edges != x.edges || items != x.classes {
			t.Errorf("%s: %d edges of %d items, error %d", x.name, edges, items, e)
		}
	}
}

// P4.1: there may be more ways to lay a rule, and more choices for its parts, when there are too many edges.
func TestParseEdgesAndMore(t *testing.T) {
	target := "vowels a\ntrait f p q\n"
	for i := range 16 {
		target += "class n" + strconv.Itoa(i) + "\n" + strings.Repeat("slot 0 - - f=p\nslot 0 - - f=q\n", 8)
	}
	for i := range 16 {
		target += "entry x n" + strconv.Itoa(i) + "\n"
	}
	for _, x := range []struct {
		name, rules, words string
		e                  api.Errno
	}{
		{"two ways", "rule S 0\ncat A\ncat A\nlex x x\nlex x x\nsource =b 1 2 3 4\ntarget 1 2 3 4\n", "b a a a x x", api.ErrLimit},
		{"two values of a feature", "rule S 0\nlex x x\nlex x x\nlex x x\nsource 1 2 3\ntarget 1 2 3\nsame 1.t.f 2.t.f\n", "x x x", api.ErrLimit},
		{"of each two values, one way", "rule S 0\nlex x x\nlex x x\nsource 1 2\ntarget 1 2\nsame 1.t.f 2.t.f\n", "x x", api.OK}, // 2 * 128 * 128
		{"and one more of another rule", "rule S 0\nlex x x\nlex x x\nsource 1 2\ntarget 1 2\nsame 1.t.f 2.t.f\n" + strings.Repeat("rule S 0\nsource =x =x\ntarget\n", 3), "x x", api.ErrLimit},
	} {
		s := system(oneForm, target, "start S\n"+x.rules+"rule A 0\nsource =a\ntarget\nrule A 0\nsource =a =a\ntarget\n")
		if f, e := chart.Parse(s, strings.Fields(x.words)); e != x.e || (f == nil) != (e != api.OK) {
			t.Errorf("%s: error %d", x.name, e)
		}
	}
}

// P4.1: choices that all fail are no edges, however many there are.
func TestParseFailures(t *testing.T) {
	text := "vowels a\ntrait f p q r\ntrait g p q r\ntrait h p q r\n"
	for i := range 16 {
		text += "class n" + strconv.Itoa(i) + "\n"
		for j := range 16 {
			value := func(n int) string { return string("pqr"[n%3]) }
			text += "slot 0 - - f=" + value(i) + " g=" + value(j) + " h=" + value(j/3) + "\n"
		}
	}
	for i := range 16 {
		text += "entry x n" + strconv.Itoa(i) + "\n"
	}
	s := system(oneForm, text, `start S
rule S 0
lex x x
lex x x
lex x x
lex x x
source 1 2 3 4
target 4 3 2 1
has 1.t.f p
has 4.t.f q
same 1.t.f 4.t.f
same 1.t.g 2.t.h
same 2.t.g 3.t.g
`)
	f := parsed(t, s, strings.Repeat("x ", 16))
	if f.Len() != 4096 {
		t.Error(f.Len())
	}
}

// R4, R8: Parse keeps nothing of its arguments.
func TestParseKeepsNothing(t *testing.T) {
	s := given()
	words := strings.Fields(theWords)
	f, _ := chart.Parse(s, words)
	want := sheetOf(t, f)
	for i := range words {
		words[i] = "cat"
	}
	for i := range s.Rules {
		for _, l := range [][]api.Item{s.Rules[i].Source, s.Rules[i].Target} {
			for j := range l {
				l[j] = api.Item{Word: "cat"}
			}
		}
		for j := range s.Rules[i].Equations {
			s.Rules[i].Equations[j] = api.Equation{}
		}
		for j := range s.Rules[i].Parts {
			s.Rules[i].Parts[j] = api.Part{}
		}
		s.Rules[i] = api.Rule{Cost: 99}
	}
	for _, l := range []*api.Lexicon{&s.Source, &s.Target} {
		for i := range l.Classes {
			for j, slot := range l.Classes[i].Slots {
				for k := range slot.Feats {
					slot.Feats[k] = api.Feat{Name: "spoiled"}
				}
				l.Classes[i].Slots[j] = api.Slot{Add: "xx"}
			}
		}
		for i := range l.Entries {
			l.Entries[i] = api.Entry{}
		}
		l.Traits[0].Values[0] = "spoiled"
	}
	if !sameSheet(sheetOf(t, f), want) || !f.Has(8, tree(theTree)) || f.Find(tree(theTree)) != 8 || len(best(t, f, 8, 2)) != 1 {
		t.Error(sheetOf(t, f).lines())
	}
}

// R4: Parse changes no argument.
func TestParseChangesNothing(t *testing.T) {
	s := given()
	words := strings.Fields(theWords)
	for range 20 {
		parsed(t, s, theWords)
	}
	if text, e := grammar.Print(s); e != api.OK || text != givenText || strings.Join(words, " ") != theWords {
		t.Error(text, words)
	}
}

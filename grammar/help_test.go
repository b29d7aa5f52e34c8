package grammar_test

import (
	"math/rand/v2"
	"slices"
	"strings"
	"testing"

	"truchman/api"
	"truchman/grammar"
	"truchman/morph"
)

const rounds = 300

func dice() *rand.Rand { return rand.New(rand.NewPCG(3, 4)) }

func pick[T any](r *rand.Rand, l ...T) T { return l[r.IntN(len(l))] }

// some makes up to n values.
func some[T any](r *rand.Rand, n int, one func() T) []T {
	var out []T
	for range r.IntN(n + 1) {
		out = append(out, one())
	}
	return out
}

// b reads a bundle: "num=sg case=nom".
func b(s string) []api.Feat {
	var out []api.Feat
	for _, w := range strings.Fields(s) {
		name, value, _ := strings.Cut(w, "=")
		out = append(out, api.Feat{Name: name, Value: value})
	}
	return out
}

// pair reads two bundles: "num=sg / num=pl".
func pair(s string) grammar.Pair {
	source, target, _ := strings.Cut(s, "/")
	return grammar.Pair{Source: b(source), Target: b(target)}
}

func pairs(l ...string) []grammar.Pair {
	var out []grammar.Pair
	for _, s := range l {
		out = append(out, pair(s))
	}
	return out
}

func samePair(x, y grammar.Pair) bool {
	return slices.Equal(x.Source, y.Source) && slices.Equal(x.Target, y.Target)
}

const sourceText = `vowels aeiou
trait num sg pl
class noun
slot 0 - - num=sg
slot 0 - s num=pl
class verb
slot 0 - -
entry dog noun
entry cat noun
entry see verb
`

const targetText = `vowels aeiou
trait num sg pl
class noun
slot 0 - - num=sg
slot 0 - e num=pl
class verb
slot 0 - en
entry hund noun
entry katz noun
entry seh verb
`

// givenText is the text of the system S of the chapter.
const givenText = `start S
rule S 1
cat NP
cat VP
source 1 2
target 1 2
rule NP 0
lex dog hund
source =the 1
target =der 1
same 1.s.num 1.t.num
same 0.t.num 1.t.num
rule VP 2
lex see seh
cat NP
source 1 2
target 2 1
`

// theTree is the text of the tree of the chapter.
const theTree = "(0 (1 [0 0 > 0 0]) (2 [2 0 > 2 0] (1 [0 1 > 0 1])))"

func lexicon(text string) api.Lexicon {
	l, _, e := morph.Parse(text)
	if e != api.OK {
		panic(e)
	}
	return l
}

// given is the system S of the chapter.
func given() api.System {
	return api.System{
		Source: lexicon(sourceText), Target: lexicon(targetText), Start: "S",
		Rules: []api.Rule{
			{Left: "S", Parts: []api.Part{{Cat: "NP"}, {Cat: "VP"}}, Source: items("1 2"), Target: items("1 2"), Cost: 1},
			{
				Left: "NP", Parts: []api.Part{{From: "dog", To: "hund"}}, Source: items("the 1"), Target: items("der 1"),
				Equations: []api.Equation{same("1.s.num", "1.t.num"), same("0.t.num", "1.t.num")},
			},
			{Left: "VP", Parts: []api.Part{{From: "see", To: "seh"}, {Cat: "NP"}}, Source: items("1 2"), Target: items("2 1"), Cost: 2},
		},
	}
}

// items reads items: digits are parts, all others are words.
func items(s string) []api.Item {
	var out []api.Item
	for _, w := range strings.Fields(s) {
		if '1' <= w[0] && w[0] <= '9' {
			out = append(out, api.Item{Part: int(w[0] - '0')})
		} else {
			out = append(out, api.Item{Word: w})
		}
	}
	return out
}

// path reads a path with a node of one digit: "0.t.num".
func path(s string) api.Path {
	return api.Path{Node: int(s[0] - '0'), Target: s[2] == 't', Name: s[4:]}
}

func same(x, y string) api.Equation { return api.Equation{A: path(x), B: path(y)} }

func has(x, value string) api.Equation { return api.Equation{A: path(x), Value: value} }

// crooked is a system with an error, which all functions pass on.
func crooked() api.System {
	s := given()
	s.Rules[2].Cost = -1
	return s
}

// crookedIs is the error of that system.
const crookedIs = api.ErrArg

// tree reads a tree.
func tree(t *testing.T, text string) api.Tree {
	t.Helper()
	out, e := grammar.Read(text)
	if e != api.OK {
		t.Fatalf("Read(%.80q): error %d", text, e)
	}
	return out
}

// leaf is a lexical tree without first parts.
func leaf(fromEntry, fromSlot, entry, slot int) api.Tree {
	return api.Tree{Rule: -1, From: api.Analysis{Entry: fromEntry, Slot: fromSlot}, Entry: entry, Slot: slot}
}

// row is a tree that goes down n nodes, each with one kid.
func row(n int) api.Tree {
	t := api.Tree{}
	for range n - 1 {
		t = api.Tree{Kids: []api.Tree{t}}
	}
	return t
}

// fan is a tree of n nodes, all but one of which are kids of that one.
func fan(n int) api.Tree { return api.Tree{Kids: make([]api.Tree, n-1)} }

// cloned copies a tree, with empty lists as nil.
func cloned(t api.Tree) api.Tree {
	t.From.Firsts = append([]api.First(nil), t.From.Firsts...)
	var kids []api.Tree
	for _, k := range t.Kids {
		kids = append(kids, cloned(k))
	}
	t.Kids = kids
	return t
}

// sameTree reports whether trees are equal in all fields; nil and empty lists are.
func sameTree(x, y api.Tree) bool {
	return x.Rule == y.Rule && x.From.Entry == y.From.Entry && x.From.Slot == y.From.Slot && x.Entry == y.Entry && x.Slot == y.Slot &&
		slices.Equal(x.From.Firsts, y.From.Firsts) && slices.EqualFunc(x.Kids, y.Kids, sameTree)
}

func sameReading(x, y api.Reading) bool {
	return x.Cat == y.Cat && slices.Equal(x.Source, y.Source) && slices.Equal(x.Target, y.Target) &&
		slices.Equal(x.Left, y.Left) && slices.Equal(x.Right, y.Right) && x.Cost == y.Cost
}

func sameRule(x, y api.Rule) bool {
	return x.Left == y.Left && slices.Equal(x.Parts, y.Parts) && slices.Equal(x.Source, y.Source) && slices.Equal(x.Target, y.Target) &&
		slices.Equal(x.Equations, y.Equations) && x.Cost == y.Cost
}

// sameLexicon compares valid lexicons by their texts, and all others by the errors that they have.
func sameLexicon(x, y api.Lexicon) bool {
	s, e := morph.Print(x)
	u, f := morph.Print(y)
	return s == u && e == f
}

func sameSystem(x, y api.System) bool {
	return sameLexicon(x.Source, y.Source) && sameLexicon(x.Target, y.Target) && x.Start == y.Start && slices.EqualFunc(x.Rules, y.Rules, sameRule)
}

// isZero reports whether a system is the zero value.
func isZero(s api.System) bool {
	isEmpty := func(l api.Lexicon) bool {
		return l.Vowels == "" && len(l.Traits)+len(l.Classes)+len(l.Entries)+len(l.Spells)+len(l.Links) == 0
	}
	return isEmpty(s.Source) && isEmpty(s.Target) && s.Start == "" && len(s.Rules) == 0
}

func accepted(t *testing.T, s api.System) {
	t.Helper()
	if e := grammar.Check(s); e != api.OK {
		t.Fatalf("Check(%v): error %d", s, e)
	}
}

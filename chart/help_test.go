package chart_test

import (
	"fmt"
	"math/rand/v2"
	"slices"
	"strings"
	"testing"

	"truchman/api"
	"truchman/chart"
	"truchman/grammar"
	"truchman/morph"
)

const rounds = 300

func dice() *rand.Rand { return rand.New(rand.NewPCG(4, 5)) }

func pick[T any](r *rand.Rand, l ...T) T { return l[r.IntN(len(l))] }

// some makes up to n values.
func some[T any](r *rand.Rand, n int, one func() T) []T {
	var out []T
	for range r.IntN(n + 1) {
		out = append(out, one())
	}
	return out
}

const sourceText = `vowels aeiou
trait num sg pl
class noun
slot 0 - - num=sg
slot 0 - s num=pl
class verb
slot 0 - -
entry dog noun
entry cat noun
entry see verb
`

const targetText = `vowels aeiou
trait num sg pl
class noun
slot 0 - - num=sg
slot 0 - e num=pl
class verb
slot 0 - en
entry hund noun
entry katz noun
entry seh verb
`

// givenText is the text of the system S of chapter 3.
const givenText = `start S
rule S 1
cat NP
cat VP
source 1 2
target 1 2
rule NP 0
lex dog hund
source =the 1
target =der 1
same 1.s.num 1.t.num
same 0.t.num 1.t.num
rule VP 2
lex see seh
cat NP
source 1 2
target 2 1
`

// theTree is the text of the tree of chapter 3.
const theTree = "(0 (1 [0 0 > 0 0]) (2 [2 0 > 2 0] (1 [0 1 > 0 1])))"

const theWords = "the dog see the dogs"

func lexicon(text string) api.Lexicon {
	l, line, e := morph.Parse(text)
	if e != api.OK {
		panic(fmt.Sprint("line ", line, ": error ", e))
	}
	return l
}

// system reads a system by the texts of its lexicons and of its rules.
func system(source, target, rules string) api.System {
	s, line, e := grammar.Parse(lexicon(source), lexicon(target), rules)
	if e != api.OK {
		panic(fmt.Sprint("line ", line, ": error ", e))
	}
	return s
}

// given is the system S of chapter 3.
func given() api.System { return system(sourceText, targetText, givenText) }

// plainText is the text of a lexicon that is enough for rules of words.
const plainText = "vowels a\ntrait f p q r\ntrait g p q\nclass n\nslot 0 - -\nentry x n\n"

// ruled is a system of rules, with the plain lexicon for both languages.
func ruled(rules string) api.System { return system(plainText, plainText, rules) }

func parsed(t *testing.T, s api.System, words string) *chart.Forest {
	t.Helper()
	f, e := chart.Parse(s, strings.Fields(words))
	if e != api.OK || f == nil {
		t.Fatalf("Parse(%s): error %d", words, e)
	}
	return f
}

func tree(text string) api.Tree {
	t, e := grammar.Read(text)
	if e != api.OK {
		panic(text)
	}
	return t
}

func written(t api.Tree) string {
	s, e := grammar.Write(t)
	if e != api.OK {
		return fmt.Sprint(t)
	}
	return s
}

func writtenAll(l []api.Tree) []string {
	var out []string
	for _, t := range l {
		out = append(out, written(t))
	}
	return out
}

// b reads a bundle: "num=sg case=nom".
func b(s string) []api.Feat {
	var out []api.Feat
	for _, w := range strings.Fields(s) {
		name, value, _ := strings.Cut(w, "=")
		out = append(out, api.Feat{Name: name, Value: value})
	}
	return out
}

// sameTree reports whether trees are equal in all fields; nil and empty lists are.
func sameTree(x, y api.Tree) bool {
	return x.Rule == y.Rule && x.From.Entry == y.From.Entry && x.From.Slot == y.From.Slot && x.Entry == y.Entry && x.Slot == y.Slot &&
		slices.Equal(x.From.Firsts, y.From.Firsts) && slices.EqualFunc(x.Kids, y.Kids, sameTree)
}

func sameItem(x, y chart.Item) bool {
	return x.From == y.From && x.To == y.To && x.Cat == y.Cat && slices.Equal(x.Left, y.Left) && slices.Equal(x.Right, y.Right) && sameTree(x.Lex, y.Lex)
}

func sameEdge(x, y chart.Edge) bool { return x.Rule == y.Rule && slices.Equal(x.Kids, y.Kids) }

// sheet is all of a forest that its definition tells: the items, their edges, and the goals.
type sheet struct {
	items []chart.Item
	edges [][]chart.Edge
	goals []int
}

func sameSheet(x, y sheet) bool {
	return slices.EqualFunc(x.items, y.items, sameItem) && slices.Equal(x.goals, y.goals) &&
		slices.EqualFunc(x.edges, y.edges, func(a, b []chart.Edge) bool { return slices.EqualFunc(a, b, sameEdge) })
}

// sheetOf asks a forest for all of it.
func sheetOf(t *testing.T, f *chart.Forest) sheet {
	t.Helper()
	out := sheet{goals: f.Goals()}
	for n := range f.Len() {
		x, e := f.Item(n)
		edges, d := f.Edges(n)
		if e != api.OK || d != api.OK {
			t.Fatalf("item %d: errors %d, %d", n, e, d)
		}
		out.items, out.edges = append(out.items, x), append(out.edges, edges)
	}
	return out
}

// lines writes a sheet, a line for each item: its number, its span, what it is, and its edges.
func (h sheet) lines() []string {
	feats := func(b []api.Feat) string {
		out := ""
		for _, f := range b {
			out += " " + f.Name + "=" + f.Value
		}
		return out
	}
	var out []string
	for n, x := range h.items {
		s := fmt.Sprintf("%d %d-%d ", n, x.From, x.To)
		if x.Cat == "" {
			s += written(x.Lex)
		} else {
			s += x.Cat + feats(x.Left) + " /" + feats(x.Right) + ":"
		}
		for _, g := range h.edges[n] {
			s += fmt.Sprintf(" %d%v", g.Rule, g.Kids)
		}
		if slices.Contains(h.goals, n) {
			s += " goal"
		}
		out = append(out, s)
	}
	return out
}

// linesAre compares a forest with lines.
func linesAre(t *testing.T, f *chart.Forest, want string) {
	t.Helper()
	var lines []string
	for _, s := range strings.Split(want, "\n") {
		if s = strings.TrimSpace(s); s != "" {
			lines = append(lines, s)
		}
	}
	if got := sheetOf(t, f).lines(); !slices.Equal(got, lines) {
		t.Errorf("the forest is\n%s\nbut should be\n%s", strings.Join(got, "\n"), strings.Join(lines, "\n"))
	}
}

// numberOf returns the number of the first item with a category; -1 if there is none.
func numberOf(t *testing.T, f *chart.Forest, cat string) int {
	t.Helper()
	return slices.IndexFunc(sheetOf(t, f).items, func(x chart.Item) bool { return x.Cat == cat })
}

func best(t *testing.T, f *chart.Forest, n, k int) []api.Tree {
	t.Helper()
	l, e := f.Best(n, k)
	if e != api.OK {
		t.Fatalf("Best(%d, %d): error %d", n, k, e)
	}
	return l
}

func inside(t *testing.T, f *chart.Forest, n int) int {
	t.Helper()
	cost, e := f.Inside(n)
	if e != api.OK {
		t.Fatalf("Inside(%d): error %d", n, e)
	}
	return cost
}

func pruned(t *testing.T, f *chart.Forest, beam int) *chart.Forest {
	t.Helper()
	out, e := f.Prune(beam)
	if e != api.OK || out == nil {
		t.Fatalf("Prune(%d): error %d", beam, e)
	}
	return out
}

package train_test

import (
	"fmt"
	"math/rand/v2"
	"slices"
	"strings"
	"testing"

	"truchman/api"
	"truchman/grammar"
	"truchman/morph"
	"truchman/train"
)

const rounds = 300

func dice() *rand.Rand { return rand.New(rand.NewPCG(6, 7)) }

func pick[T any](r *rand.Rand, l ...T) T { return l[r.IntN(len(l))] }

// some makes up to n values.
func some[T any](r *rand.Rand, n int, one func() T) []T {
	var out []T
	for range r.IntN(n + 1) {
		out = append(out, one())
	}
	return out
}

const sourceText = `vowels aeiou
trait num sg pl
class noun
slot 0 - - num=sg
slot 0 - s num=pl
class verb
slot 0 - -
entry dog noun
entry cat noun
entry see verb
`

const targetText = `vowels aeiou
trait num sg pl
class noun
slot 0 - - num=sg
slot 0 - e num=pl
class verb
slot 0 - en
entry hund noun
entry katz noun
entry seh verb
`

// givenText is the text of the system S of chapter 3.
const givenText = `start S
rule S 1
cat NP
cat VP
source 1 2
target 1 2
rule NP 0
lex dog hund
source =the 1
target =der 1
same 1.s.num 1.t.num
same 0.t.num 1.t.num
rule VP 2
lex see seh
cat NP
source 1 2
target 2 1
`

// theTree is the text of the tree of chapter 3.
const theTree = "(0 (1 [0 0 > 0 0]) (2 [2 0 > 2 0] (1 [0 1 > 0 1])))"

// theCouple is the couple of the chapter.
func theCouple() api.Couple { return couple("the dog see the dogs / der hund der hunde sehen") }

// plainText is the text of a lexicon that is enough for rules of words.
const plainText = "vowels a\nclass n\nslot 0 - -\nentry x n\n"

func lexicon(text string) api.Lexicon {
	l, line, e := morph.Parse(text)
	if e != api.OK {
		panic(fmt.Sprint("line ", line, ": error ", e))
	}
	return l
}

// system reads a system by the texts of its lexicons and of its rules.
func system(source, target, rules string) api.System {
	s, line, e := grammar.Parse(lexicon(source), lexicon(target), rules)
	if e != api.OK {
		panic(fmt.Sprint("line ", line, ": error ", e))
	}
	return s
}

// given is the system S of chapter 3.
func given() api.System { return system(sourceText, targetText, givenText) }

// ruled is a system of rules, with the plain lexicon for both languages.
func ruled(rules string) api.System { return system(plainText, plainText, rules) }

// couple reads a couple: "SOURCE / TARGET".
func couple(text string) api.Couple {
	source, target, _ := strings.Cut(text, "/")
	return api.Couple{Source: strings.Fields(source), Target: strings.Fields(target)}
}

func couples(texts ...string) []api.Couple {
	var out []api.Couple
	for _, x := range texts {
		out = append(out, couple(x))
	}
	return out
}

func written(t api.Tree) string {
	s, e := grammar.Write(t)
	if e != api.OK {
		return fmt.Sprint(t)
	}
	return s
}

func writtenAll(l []api.Tree) []string {
	var out []string
	for _, t := range l {
		out = append(out, written(t))
	}
	return out
}

// sameTree reports whether trees are equal in all fields; nil and empty lists are.
func sameTree(x, y api.Tree) bool {
	return x.Rule == y.Rule && x.From.Entry == y.From.Entry && x.From.Slot == y.From.Slot && x.Entry == y.Entry && x.Slot == y.Slot &&
		slices.Equal(x.From.Firsts, y.From.Firsts) && slices.EqualFunc(x.Kids, y.Kids, sameTree)
}

func fits(t *testing.T, s api.System, c api.Couple, k int) []api.Tree {
	t.Helper()
	l, e := train.Fits(s, c, k)
	if e != api.OK {
		t.Fatalf("Fits(%v, %d): error %d", c, k, e)
	}
	return l
}

// counted writes what Count returns.
func counted(s api.System, c api.Couple) string {
	trees, uses, e := train.Count(s, c)
	return fmt.Sprint(trees, uses, e)
}

// costs returns the costs of a system's rules.
func costs(s api.System) []int {
	var out []int
	for _, r := range s.Rules {
		out = append(out, r.Cost)
	}
	return out
}

// priced returns a system whose rules have other costs.
func priced(s api.System, costs []int) api.System {
	s.Rules = slices.Clone(s.Rules)
	for n := range s.Rules {
		s.Rules[n].Cost = costs[n]
	}
	return s
}

// sameSystem reports whether systems are equal in all fields; nil and empty lists are.
func sameSystem(x, y api.System) bool { return fmt.Sprint(x) == fmt.Sprint(y) }

package checks_test

import (
	"fmt"
	"math/rand/v2"
	"slices"
	"strings"
	"testing"

	"truchman/api"
	"truchman/checks"
	"truchman/docs"
)

const rounds = 300

func dice() *rand.Rand { return rand.New(rand.NewPCG(8, 9)) }

func pick[T any](r *rand.Rand, l ...T) T { return l[r.IntN(len(l))] }

// some makes up to n values.
func some[T any](r *rand.Rand, n int, one func() T) []T {
	var out []T
	for range r.IntN(n + 1) {
		out = append(out, one())
	}
	return out
}

func fields(s string) []string { return strings.Fields(s) }

// read reads pieces.
func read(s string) []api.Piece {
	l, e := docs.Read(s)
	if e != api.OK {
		panic(fmt.Sprint(s, ": error ", e))
	}
	return l
}

// pair reads a pair by the written forms of its sides: "SOURCE | TARGET".
func pair(s string) api.Pair {
	source, target, _ := strings.Cut(s, " | ")
	return api.Pair{Source: read(source), Target: read(target)}
}

// parsed returns the tree of a formula.
func parsed(t *testing.T, text string) api.Term {
	t.Helper()
	x, at, e := checks.Parse(text)
	if e != api.OK || at != 0 {
		t.Fatalf("Parse(%q): place %d, error %d", text, at, e)
	}
	return x
}

// fails holds the error of a formula, and its place, against what they must be.
func fails(t *testing.T, text string, at int, e api.Errno) {
	t.Helper()
	if x, gotAt, got := checks.Parse(text); gotAt != at || got != e || !same(x, api.Term{}) {
		t.Errorf("Parse(%.80q): %v, place %d, error %d, want %d, %d", text, x, gotAt, got, at, e)
	}
}

// same reports whether trees are equal; nil and empty lists are.
func same(a, b api.Term) bool {
	if a.Kind != b.Kind || a.Text != b.Text || a.Num != b.Num || len(a.Subs) != len(b.Subs) {
		return false
	}
	for i := range a.Subs {
		if !same(a.Subs[i], b.Subs[i]) {
			return false
		}
	}
	return true
}

// Makers of trees.

var source, target = api.Term{Kind: api.TeSource}, api.Term{Kind: api.TeTarget}

func num(n int64) api.Term { return api.Term{Kind: api.TeNumber, Num: n} }

func str(s string) api.Term { return api.Term{Kind: api.TeText, Text: s} }

func name(s string) api.Term { return api.Term{Kind: api.TeName, Text: s} }

func of(kind api.TermKind, text string, subs ...api.Term) api.Term {
	return api.Term{Kind: kind, Text: text, Subs: subs}
}

func call(s string, args ...api.Term) api.Term { return of(api.TeCall, s, args...) }

func test(s string, args ...api.Term) api.Term { return of(api.TeTest, s, args...) }

func compare(a api.Term, operator string, b api.Term) api.Term {
	return of(api.TeCompare, operator, a, b)
}

func not(f api.Term) api.Term { return of(api.TeNot, "", f) }

func and(l ...api.Term) api.Term { return of(api.TeAnd, "", l...) }

func or(l ...api.Term) api.Term { return of(api.TeOr, "", l...) }

func all(s string, list, f api.Term) api.Term { return of(api.TeAll, s, list, f) }

func some1(s string, list, f api.Term) api.Term { return of(api.TeAny, s, list, f) }

func add(a, b api.Term) api.Term { return of(api.TeAdd, "", a, b) }

func sub(a, b api.Term) api.Term { return of(api.TeSub, "", a, b) }

func mul(a, b api.Term) api.Term { return of(api.TeMul, "", a, b) }

// eval evaluates a formula.
func eval(t *testing.T, formula string, p api.Pair) bool {
	t.Helper()
	is, e := checks.Eval(formula, p)
	if e != api.OK {
		t.Fatalf("Eval(%q): error %d", formula, e)
	}
	return is
}

// shown writes reasons: "+FORMULA x=VALUE; -FORMULA".
func shown(l []api.Reason) string {
	var out []string
	for _, r := range l {
		s := "-" + r.Formula
		if r.True {
			s = "+" + r.Formula
		}
		for _, b := range r.Bounds {
			s += " " + b.Name + "=" + b.Value
		}
		out = append(out, s)
	}
	return strings.Join(out, "; ")
}

func sameReason(a, b api.Reason) bool {
	return a.Formula == b.Formula && a.True == b.True && slices.Equal(a.Bounds, b.Bounds)
}

func sameReasons(a, b []api.Reason) bool { return slices.EqualFunc(a, b, sameReason) }

// repeated returns n equal words.
func repeated(word string, n int) []string { return slices.Repeat([]string{word}, n) }

// crooked are pieces that are not valid, twisted ones have too many words.
func crooked() []api.Piece { return []api.Piece{{Kind: api.PiClose, Text: "b"}} }

func twisted() []api.Piece {
	return []api.Piece{{Kind: api.PiText, Text: strings.Repeat("a ", api.MaxWords+1)}}
}

// What docs says of them.
const (
	crookedIs = api.ErrScope
	twistedIs = api.ErrLimit
)

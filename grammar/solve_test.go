package grammar_test

import (
	"slices"
	"strings"
	"testing"

	"truchman/api"
	"truchman/grammar"
)

// featured is a system whose lexicons have several traits, some of which have values in common. Its rule has two parts, and the equations.
func featured(equations ...api.Equation) api.System {
	values := func(s string) []string { return strings.Fields(s) }
	r := rule("S", "A", "dog")
	r.Equations = equations
	s := withRules(rule("S"), r)
	s.Source.Traits = []api.Trait{{Name: "num", Values: values("sg pl")}, {Name: "per", Values: values("one two")}, {Name: "agr", Values: values("sg pl one")}}
	s.Target.Traits = []api.Trait{{Name: "num", Values: values("pl sg du")}, {Name: "case", Values: values("nom acc")}, {Name: "agr", Values: values("one")}}
	return s
}

// P3.3: the pair of the left side.
func TestSolve(t *testing.T) {
	for _, x := range []struct {
		name      string
		equations []api.Equation
		parts     []string
		want      string
		clash     bool
	}{
		{"no equations: the left side has nothing", nil, []string{"num=sg per=one / case=nom num=du", "num=pl / num=sg"}, "/", false},
		{"a value of the left side", []api.Equation{has("0.t.case", "acc"), has("0.s.num", "pl")}, []string{"/", "/"}, "num=pl / case=acc", false},
		{"by increasing names", []api.Equation{has("0.s.per", "two"), has("0.s.agr", "one"), has("0.s.num", "pl")}, []string{"/", "/"}, "agr=one num=pl per=two /", false},
		{"from a part", []api.Equation{same("0.s.num", "1.s.num")}, []string{"num=pl /", "num=sg /"}, "num=pl /", false},
		{"from the other part", []api.Equation{same("2.s.num", "0.s.num")}, []string{"num=pl /", "num=sg /"}, "num=sg /", false},
		{"from side to side", []api.Equation{same("0.t.num", "1.s.num")}, []string{"num=pl / num=sg", "/"}, "/ num=pl", false},
		{"from side to side, of another name", []api.Equation{same("0.s.agr", "1.t.num"), same("0.t.num", "0.s.agr")}, []string{"num=pl / num=sg", "/"}, "agr=sg / num=sg", false},
		{"nothing from a part that does not have it", []api.Equation{same("0.s.num", "1.s.num")}, []string{"per=one / num=sg", "num=sg /"}, "/", false},
		{"parts that agree", []api.Equation{same("1.s.num", "2.s.num")}, []string{"num=pl /", "num=pl /"}, "/", false},
		{"parts that do not agree", []api.Equation{same("1.s.num", "2.s.num")}, []string{"num=pl /", "num=sg /"}, "", true},
		{"a part that says nothing", []api.Equation{same("1.s.num", "2.s.num")}, []string{"num=pl /", "/ num=sg"}, "/", false},
		{"sides of a part that do not agree", []api.Equation{same("1.s.num", "1.t.num")}, []string{"num=pl / num=sg", "/"}, "", true},
		{"a value that a part has", []api.Equation{has("1.s.num", "pl")}, []string{"num=pl /", "/"}, "/", false},
		{"a value that a part does not have", []api.Equation{has("1.s.num", "pl")}, []string{"num=sg /", "/"}, "", true},
		{"a value of a part that says nothing", []api.Equation{has("1.s.num", "pl")}, []string{"/ num=sg", "num=sg /"}, "/", false},
		{"a value that goes from a part to the left side", []api.Equation{has("1.s.num", "pl"), same("1.s.num", "0.s.num")}, []string{"/", "/"}, "num=pl /", false},
		{"two unlike values", []api.Equation{has("0.s.num", "pl"), has("0.s.num", "sg")}, []string{"/", "/"}, "", true},
		{"the same value twice", []api.Equation{has("0.s.num", "pl"), has("0.s.num", "pl")}, []string{"/", "/"}, "num=pl /", false},
		{"two unlike values by way of others", []api.Equation{has("0.s.num", "pl"), same("0.t.num", "0.s.num"), same("2.s.num", "0.t.num"), has("2.s.num", "sg")}, []string{"/", "/"}, "", true},
		{"a long way", []api.Equation{same("0.s.num", "1.t.num"), same("0.s.agr", "2.t.num"), same("2.s.num", "2.t.num"), same("2.s.num", "1.t.num")}, []string{"/ num=pl", "num=pl /"}, "agr=pl num=pl /", false},
		{"a long way to two values", []api.Equation{same("0.s.num", "1.t.num"), same("0.s.agr", "2.t.num"), same("2.s.num", "2.t.num"), same("0.s.agr", "0.s.num")}, []string{"/ num=pl", "num=sg /"}, "", true},
		{"a circle", []api.Equation{same("0.s.num", "1.s.num"), same("1.s.num", "2.s.num"), same("2.s.num", "0.s.num"), same("0.s.num", "0.s.num")}, []string{"/", "num=sg /"}, "num=sg /", false},
		{"a value that the left side's trait does not have", []api.Equation{same("0.s.num", "1.t.num")}, []string{"/ num=du", "/"}, "", true},
		{"a value that a part's trait does not have", []api.Equation{same("2.s.num", "1.t.num")}, []string{"/ num=du", "/"}, "", true},
		{"a value that a trait of the class does not have, by way of one that has it", []api.Equation{same("0.t.num", "1.t.num"), same("1.s.per", "0.t.num")}, []string{"/ num=sg", "/"}, "", true},
		{"a value that A's trait has, and B's does not", []api.Equation{same("0.s.agr", "0.t.agr"), has("0.s.agr", "sg")}, []string{"/", "/"}, "", true},
		{"a value that all traits have", []api.Equation{same("0.s.agr", "0.t.agr"), same("1.s.per", "0.t.agr"), has("0.s.agr", "one")}, []string{"/", "/"}, "agr=one / agr=one", false},
		{"a class without a value, with traits that have none in common", []api.Equation{same("0.s.num", "0.t.case")}, []string{"per=one /", "/"}, "/", false},
		{"features that no equation names", []api.Equation{same("0.s.num", "1.s.num")}, []string{"agr=one num=sg per=one / case=acc", "agr=sg per=two / num=du"}, "num=sg /", false},
		{"equal names of other sides are not the same", []api.Equation{same("0.s.num", "1.s.num"), same("0.t.num", "1.t.num")}, []string{"num=sg / num=pl", "/"}, "num=sg / num=pl", false},
	} {
		got, e := grammar.Solve(featured(x.equations...), 1, pairs(x.parts...))
		if x.clash {
			if e != api.ErrClash || !samePair(got, grammar.Pair{}) {
				t.Errorf("%s: %v, error %d", x.name, got, e)
			}
		} else if e != api.OK || !samePair(got, pair(x.want)) {
			t.Errorf("%s: %v, error %d, want %s", x.name, got, e, x.want)
		}
	}
	if got, e := grammar.Solve(featured(), 0, nil); e != api.OK || !samePair(got, grammar.Pair{}) {
		t.Error(got, e)
	}
}

// P3.3: the errors of Solve, in their order.
func TestSolveErrors(t *testing.T) {
	s := featured(same("1.s.num", "2.s.num"))
	nine := strings.Repeat("num=sg ", 9)
	for _, x := range []struct {
		name  string
		rule  int
		parts []grammar.Pair
		e     api.Errno
	}{
		{"no such rule", 2, pairs("/", "num=x /"), api.ErrNone},
		{"a rule below 0", -1, nil, api.ErrNone},
		{"the greatest rule", 1<<63 - 1, nil, api.ErrNone},
		{"too few pairs", 1, pairs("/"), api.ErrArg},
		{"no pairs", 1, nil, api.ErrArg},
		{"too many pairs", 1, pairs("/", "/", "/"), api.ErrArg},
		{"a pair for a rule without parts", 0, pairs("/"), api.ErrArg},
		{"a feature of no trait", 1, pairs("case=nom /", "/"), api.ErrArg},
		{"a value of no trait", 1, pairs("num=du /", "/"), api.ErrArg},
		{"a feature twice", 1, pairs("num=sg num=sg /", "/"), api.ErrArg},
		{"features in the wrong order", 1, pairs("per=one num=sg /", "/"), api.ErrArg},
		{"too many features", 1, pairs(nine+"/", "/"), api.ErrArg},
		{"a target feature of no trait", 1, pairs("/", "/ per=one"), api.ErrArg},
		{"a target value of no trait", 1, pairs("/", "/ num=tri"), api.ErrArg},
		{"target features in the wrong order", 1, pairs("/ num=sg case=nom", "/"), api.ErrArg},
		{"a clash, and a bundle that is none", 1, pairs("num=sg /", "num=pl / case=x"), api.ErrArg},
		{"a clash", 1, pairs("num=sg /", "num=pl /"), api.ErrClash},
	} {
		if got, e := grammar.Solve(s, x.rule, x.parts); e != x.e || !samePair(got, grammar.Pair{}) {
			t.Errorf("%s: %v, error %d, want %d", x.name, got, e, x.e)
		}
	}
}

// P3.3: the rule of the chapter.
func TestSolveGiven(t *testing.T) {
	for parts, want := range map[string]string{"num=sg / num=sg": "/ num=sg", "num=pl / num=pl": "/ num=pl", "/ num=pl": "/ num=pl", "num=pl /": "/ num=pl", "/": "/"} {
		if got, e := grammar.Solve(given(), 1, pairs(parts)); e != api.OK || !samePair(got, pair(want)) {
			t.Errorf("%s: %v, error %d, want %s", parts, got, e, want)
		}
	}
	if _, e := grammar.Solve(given(), 1, pairs("num=sg / num=pl")); e != api.ErrClash {
		t.Error(e)
	}
}

// R4: Solve changes no argument.
func TestSolveKeeps(t *testing.T) {
	parts := pairs("num=sg / num=sg", "num=pl /")
	if _, e := grammar.Solve(featured(same("0.s.num", "1.s.num")), 1, parts); e != api.OK {
		t.Fatal(e)
	}
	if !slices.EqualFunc(parts, pairs("num=sg / num=sg", "num=pl /"), samePair) {
		t.Error(parts)
	}
}

package grammar_test

import (
	"slices"
	"strconv"
	"strings"
	"testing"

	"truchman/api"
	"truchman/grammar"
)

// sound is a valid system of which the second rule has two of everything.
func sound() api.System {
	s := given()
	s.Source.Traits = append(s.Source.Traits, api.Trait{Name: "per", Values: []string{"one", "two"}})
	s.Target.Traits = append(s.Target.Traits, api.Trait{Name: "gen", Values: []string{"m", "f"}})
	s.Rules[1] = api.Rule{
		Left: "NP", Parts: []api.Part{{From: "dog", To: "hund"}, {Cat: "S"}},
		Source: items("the 1 2"), Target: items("2 der 1"),
		Equations: []api.Equation{has("1.s.num", "pl"), same("0.t.gen", "2.s.per"), has("2.t.gen", "f")}, Cost: 10000,
	}
	return s
}

// fault is something that makes a sound system invalid.
type fault struct {
	name  string
	e     api.Errno
	spoil func(s *api.System)
}

// pad puts copies behind a list until it has n elements.
func pad[T any](l []T, n int, one func(i int) T) []T {
	for len(l) < n {
		l = append(l, one(len(l)))
	}
	return l
}

func numbered(i int) string { return "x" + strconv.Itoa(i) }

// second returns the rule that is spoiled. A fault that stands ahead of others makes room for itself.
func second(s *api.System) *api.Rule {
	s.Rules = pad(s.Rules, 2, func(int) api.Rule { return sound().Rules[1] })
	return &s.Rules[1]
}

func ofRule(name string, e api.Errno, spoil func(r *api.Rule)) fault {
	return fault{name, e, func(s *api.System) { spoil(second(s)) }}
}

// faults are all errors of a system, in the order of the document.
func faults() []fault {
	return slices.Concat(firstFaults(), partFaults(), itemFaults("source"), itemFaults("target"), placeFaults(), equationFaults(), lastFaults())
}

func firstFaults() []fault {
	return []fault{
		{"an error of the source lexicon", api.ErrTwice, func(s *api.System) { s.Source.Traits[1].Name = "num" }},
		{"an error of the target lexicon", api.ErrLimit, func(s *api.System) {
			s.Target.Classes = pad(s.Target.Classes, 17, func(i int) api.Class { return api.Class{Name: numbered(i), Slots: []api.Slot{{}}} })
		}},
		{"no start", api.ErrName, func(s *api.System) { s.Start = "" }},
		{"a start that is no name", api.ErrName, func(s *api.System) { s.Start = "S'" }},
		{"a long start", api.ErrName, func(s *api.System) { s.Start = strings.Repeat("S", 13) }},
		{"too many rules", api.ErrLimit, func(s *api.System) {
			s.Rules = pad(s.Rules, 97, func(int) api.Rule { return api.Rule{Left: "S", Source: items("a")} })
		}},
		ofRule("no Left", api.ErrName, func(r *api.Rule) { r.Left = "" }),
		ofRule("a Left that is no name", api.ErrName, func(r *api.Rule) { r.Left = "1" }),
		ofRule("too many parts", api.ErrLimit, func(r *api.Rule) {
			r.Parts = pad(r.Parts, 5, func(int) api.Part { return api.Part{Cat: "S"} })
		}),
	}
}

func partFaults() []fault {
	part := func(name string, e api.Errno, p api.Part) fault {
		return ofRule(name, e, func(r *api.Rule) {
			r.Parts = pad(r.Parts, 2, func(int) api.Part { return api.Part{} })
			r.Parts[1] = p
		})
	}
	return []fault{
		part("a category that is no name", api.ErrName, api.Part{Cat: "N-P"}),
		part("a category that is no name, with a lemma", api.ErrName, api.Part{Cat: "N-P", From: "dog"}),
		part("a category with a From", api.ErrArg, api.Part{Cat: "NP", From: "dog"}),
		part("a category with a To", api.ErrArg, api.Part{Cat: "NP", To: "hund"}),
		part("nothing", api.ErrNone, api.Part{}),
		part("no From", api.ErrNone, api.Part{To: "hund"}),
		part("no To", api.ErrNone, api.Part{From: "dog"}),
		part("a From of the other lexicon", api.ErrNone, api.Part{From: "hund", To: "hund"}),
		part("a To of the other lexicon", api.ErrNone, api.Part{From: "dog", To: "dog"}),
		part("a From that is just a form", api.ErrNone, api.Part{From: "dogs", To: "hund"}),
	}
}

// itemFaults are the errors of the items of a side.
func itemFaults(side string) []fault {
	of := func(r *api.Rule) *[]api.Item {
		if side == "source" {
			return &r.Source
		}
		return &r.Target
	}
	var list []fault
	item := func(name string, e api.Errno, x api.Item) {
		list = append(list, ofRule(side+": "+name, e, func(r *api.Rule) {
			*of(r) = append(slices.Clone(*of(r))[:min(2, len(*of(r)))], x)
		}))
	}
	if side == "source" {
		many := func(l *[]api.Item) { *l = pad(*l, 9, func(int) api.Item { return api.Item{Word: "a"} }) }
		list = append(list,
			ofRule("too many items in Source", api.ErrLimit, func(r *api.Rule) { many(&r.Source) }),
			ofRule("too many items in Target", api.ErrLimit, func(r *api.Rule) { many(&r.Target) }),
			ofRule("no items in Source", api.ErrArg, func(r *api.Rule) { r.Source = nil }),
		)
	}
	item("a part below 0", api.ErrArg, api.Item{Part: -1})
	item("a part that there is not", api.ErrArg, api.Item{Part: 5})
	item("the least part", api.ErrArg, api.Item{Part: -1 << 63, Word: "a"})
	item("a part with a word", api.ErrArg, api.Item{Part: 1, Word: "a"})
	list = append(list, ofRule(side+": a part twice", api.ErrTwice, func(r *api.Rule) { *of(r) = items("1 a 1") }))
	item("no word", api.ErrArg, api.Item{})
	item("a word with a blank", api.ErrArg, api.Item{Word: "a b"})
	item("a word of other bytes", api.ErrArg, api.Item{Word: "é"})
	item("a long word", api.ErrArg, api.Item{Word: strings.Repeat("a", 25)})
	return list
}

func placeFaults() []fault {
	return []fault{
		ofRule("a part that is not in Source", api.ErrNone, func(r *api.Rule) { r.Source = items("the 1") }),
		ofRule("a part that is not in Target", api.ErrNone, func(r *api.Rule) { r.Target = items("der 2") }),
		ofRule("an empty Target with parts", api.ErrNone, func(r *api.Rule) { r.Target = nil }),
	}
}

func equationFaults() []fault {
	equation := func(name string, e api.Errno, q api.Equation) fault {
		return ofRule(name, e, func(r *api.Rule) {
			r.Equations = pad(r.Equations, 2, func(int) api.Equation { return has("1.s.num", "pl") })
			r.Equations[1] = q
		})
	}
	below, above := api.Path{Node: -1, Name: "num"}, api.Path{Node: 5, Name: "num"}
	return []fault{
		ofRule("too many equations", api.ErrLimit, func(r *api.Rule) {
			r.Equations = pad(r.Equations, 13, func(int) api.Equation { return has("1.s.num", "pl") })
		}),
		equation("A below 0", api.ErrArg, api.Equation{A: below, Value: "sg"}),
		equation("A above the parts", api.ErrArg, api.Equation{A: above, Value: "sg"}),
		equation("A above the parts, and no trait", api.ErrArg, api.Equation{A: api.Path{Node: 5}}),
		equation("A without a name", api.ErrName, has("0.s.", "sg")),
		equation("A of the other lexicon", api.ErrName, has("0.s.gen", "m")),
		equation("A of the other lexicon, and B above the parts", api.ErrName, api.Equation{A: path("0.t.per"), B: above}),
		equation("a value, and B", api.ErrArg, api.Equation{A: path("0.s.num"), B: path("1.s.num"), Value: "sg"}),
		equation("a value, and B without a name", api.ErrArg, api.Equation{A: path("0.s.num"), B: path("0.t."), Value: "sg"}),
		equation("a value of another trait", api.ErrArg, has("0.s.num", "one")),
		equation("a value of no trait", api.ErrArg, has("0.s.num", "Sg")),
		equation("B below 0", api.ErrArg, api.Equation{A: path("0.s.num"), B: below}),
		equation("B above the parts", api.ErrArg, api.Equation{A: path("0.s.num"), B: above}),
		equation("B without a name", api.ErrName, same("0.s.num", "0.s.")),
		equation("neither B nor a value", api.ErrName, api.Equation{A: path("0.s.num")}),
		equation("B of the other lexicon", api.ErrName, same("0.s.num", "1.t.per")),
	}
}

func lastFaults() []fault {
	return []fault{
		ofRule("a cost below 0", api.ErrArg, func(r *api.Rule) { r.Cost = -1 }),
		ofRule("a cost above MaxCost", api.ErrArg, func(r *api.Rule) { r.Cost = 10001 }),
		{"a chain that leads back", api.ErrLoop, func(s *api.System) { s.Rules = append(s.Rules, chained("X", "X")) }},
	}
}

// P3.1: each error by itself; and every function that has Check's error returns it first.
func TestFaults(t *testing.T) {
	accepted(t, given())
	accepted(t, sound())
	accepted(t, api.System{Start: "S"})
	for _, f := range faults() {
		s := sound()
		f.spoil(&s)
		if e := grammar.Check(s); e != f.e {
			t.Errorf("%s: error %d, want %d", f.name, e, f.e)
		}
		firstError(t, s, f.e)
	}
}

// firstError checks that all functions return the error of a system, with zero values.
func firstError(t *testing.T, s api.System, want api.Errno) {
	t.Helper()
	is := func(name string, zero bool, e api.Errno) {
		t.Helper()
		if e != want || !zero {
			t.Errorf("%s: error %d, want %d, zero: %v", name, e, want, zero)
		}
	}
	text, e := grammar.Print(s)
	is("Print", text == "", e)
	left, e := grammar.Solve(s, -1, nil)
	is("Solve", samePair(left, grammar.Pair{}), e)
	reading, e := grammar.Derive(s, row(100))
	is("Derive", sameReading(reading, api.Reading{}), e)
	chains, e := grammar.Chains(s)
	is("Chains", len(chains) == 0, e)
	useful, e := grammar.Useful(s)
	is("Useful", len(useful) == 0, e)
	moves, e := grammar.Moves(s, -1)
	is("Moves", moves == 0, e)
	back, e := grammar.Reverse(s)
	is("Reverse", isZero(back), e)
}

// P3.1 and R1: of two errors the one that the document names first.
func TestFaultsInOrder(t *testing.T) {
	all := faults()
	for i, first := range all {
		for _, later := range all[i+1:] {
			s := sound()
			later.spoil(&s)
			first.spoil(&s)
			if e := grammar.Check(s); e != first.e {
				t.Errorf("%s, and %s: error %d, want %d", first.name, later.name, e, first.e)
			}
		}
	}
}

// P3.1: elements are examined one by one: an error of the first one comes before one of the second.
func TestElementsInOrder(t *testing.T) {
	for _, x := range []struct {
		name  string
		e     api.Errno
		spoil func(s *api.System)
	}{
		{"rules", api.ErrArg, func(s *api.System) { s.Rules[0].Cost, s.Rules[1].Left = -1, "" }},
		{"rules, the later one alone", api.ErrName, func(s *api.System) { s.Rules[2].Left = "" }},
		{"parts", api.ErrNone, func(s *api.System) { s.Rules[1].Parts = []api.Part{{}, {Cat: "N-P"}} }},
		{"parts, in the other order", api.ErrName, func(s *api.System) { s.Rules[1].Parts = []api.Part{{Cat: "N-P"}, {}} }},
		{"items", api.ErrTwice, func(s *api.System) { s.Rules[1].Source = items("1 1 9") }},
		{"sides", api.ErrTwice, func(s *api.System) { s.Rules[1].Source, s.Rules[1].Target = items("1 1"), items("9") }},
		{"sides, the later one alone", api.ErrArg, func(s *api.System) { s.Rules[1].Target = items("1 2 9") }},
		{"an item of Target, and a part missing in Source", api.ErrTwice, func(s *api.System) { s.Rules[1].Source, s.Rules[1].Target = items("1"), items("2 2") }},
		{"equations", api.ErrName, func(s *api.System) { s.Rules[1].Equations = []api.Equation{has("0.s.x", "y"), has("9.s.num", "y")} }},
		{"a rule with a loop, and a later one with an error", api.ErrName, func(s *api.System) { s.Rules[0], s.Rules[2].Left = chained("X", "X"), "" }},
	} {
		s := sound()
		x.spoil(&s)
		if e := grammar.Check(s); e != x.e {
			t.Errorf("%s: error %d, want %d", x.name, e, x.e)
		}
	}
}

// widest is a system that has as much as is allowed.
func widest() api.System {
	name := func(i int) string { return strings.Repeat("A", 10) + string(rune('A'+i/10)) + strconv.Itoa(i%10) }
	word := strings.Repeat("~", 24)
	lemma := strings.Repeat("z", 24)
	l := api.Lexicon{
		Traits:  []api.Trait{{Name: strings.Repeat("t", 12), Values: []string{strings.Repeat("v", 12)}}},
		Classes: []api.Class{{Name: "n", Slots: []api.Slot{{}}}},
		Entries: []api.Entry{{Lemma: lemma, Class: "n"}},
	}
	s := api.System{Source: l, Target: l, Start: name(0)}
	for i := range 96 {
		cat := api.Part{Cat: name(i)}
		side := append(items("1 2 3 4"), slices.Repeat([]api.Item{{Word: word}}, 4)...)
		last := api.Path{Node: 4, Target: true, Name: strings.Repeat("t", 12)}
		s.Rules = append(s.Rules, api.Rule{
			Left: name(i), Parts: []api.Part{{From: lemma, To: lemma}, cat, cat, {From: lemma, To: lemma}},
			Source: side, Target: slices.Clone(side),
			Equations: slices.Repeat([]api.Equation{{A: last, B: last}}, 12), Cost: 10000,
		})
	}
	return s
}

// P3.1: a limit is allowed itself.
func TestWidest(t *testing.T) { accepted(t, widest()) }

// P3.1: what looks wrong, but is allowed.
func TestAllowed(t *testing.T) {
	for name, change := range map[string]func(s *api.System){
		"no target items without parts": func(s *api.System) { s.Rules[0] = api.Rule{Left: "S", Source: items("a")} },
		"a start without rules":         func(s *api.System) { s.Start = "Nothing" },
		"a category without rules":      func(s *api.System) { s.Rules[0].Parts[0].Cat = "Nothing" },
		"the same rule twice":           func(s *api.System) { s.Rules[0] = s.Rules[1] },
		"the same equation twice":       func(s *api.System) { s.Rules[1].Equations[0] = s.Rules[1].Equations[2] },
		"a path the same as itself":     func(s *api.System) { s.Rules[1].Equations[0] = same("2.t.gen", "2.t.gen") },
		"values that contradict":        func(s *api.System) { s.Rules[1].Equations[0] = has("2.t.gen", "m") },
		"the same word twice":           func(s *api.System) { s.Rules[1].Source = items("a a 1 a 2 a") },
		"a word of marks":               func(s *api.System) { s.Rules[1].Source = items("!~ 1 2 =") },
		"a left that contains itself":   func(s *api.System) { s.Rules[0].Parts[0].Cat = "S" },
	} {
		s := sound()
		change(&s)
		if e := grammar.Check(s); e != api.OK {
			t.Errorf("%s: error %d", name, e)
		}
	}
}

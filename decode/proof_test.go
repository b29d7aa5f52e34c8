package decode_test

import (
	"fmt"
	"math"
	"slices"
	"strconv"
	"strings"
	"testing"

	"truchman/api"
	"truchman/decode"
)

// shown writes states: "5 der hund 0", a word of none as "-".
func shown(l []api.State) []string {
	name := func(s string) string {
		if s == "" {
			return "-"
		}
		return s
	}
	var out []string
	for _, x := range l {
		out = append(out, fmt.Sprint(x.Item, " ", name(x.First), " ", name(x.Last), " ", x.Cost))
	}
	return out
}

// states reads what shown writes, parted by commas.
func states(text string) []api.State {
	var out []api.State
	for _, s := range strings.Split(text, ",") {
		w := strings.Fields(strings.ReplaceAll(s, "-", ""))
		item, _ := strconv.Atoi(w[0])
		cost, _ := strconv.Atoi(w[len(w)-1])
		x := api.State{Item: item, Cost: cost}
		if len(w) == 4 {
			x.First, x.Last = w[1], w[2]
		}
		out = append(out, x)
	}
	return out
}

func bound(s api.System, m api.Model, words string, l []api.State) string {
	n, found, e := decode.Bound(s, m, strings.Fields(words), l)
	return fmt.Sprint(n, " ", found, " ", int(e))
}

// P5.4, P5.5: the example of the chapter.
func TestProve(t *testing.T) {
	s, m := given(), theModel()
	l := proof(t, s, m, theWords)
	want := []string{
		"0 hund hund 0", "1 hunde hunde 0", "2 sehen sehen 0", "3 hund hund 0", "4 hunde hunde 0",
		"5 der hund 0", "6 der hunde 5", "7 der sehen 11", "8 der sehen 13",
	}
	if got := shown(l); !slices.Equal(got, want) {
		t.Errorf("%q", got)
	}
	if got := bound(s, m, theWords, l); got != "17 true 0" {
		t.Error(got)
	}
	for _, text := range []string{"", "the", "see see"} { // without an item of a category, or without any
		l := proof(t, s, m, text)
		if len(l) != len(strings.Fields(text))/2*2 {
			t.Errorf("%s: %v", text, l)
		}
		if got := bound(s, m, text, l); got != "0 false 0" {
			t.Errorf("%s: %s", text, got)
		}
	}
	l = proof(t, s, m, "the dog")
	if got := shown(l); !slices.Equal(got, []string{"0 hund hund 0", "1 hunde hunde 0", "2 der hund 0"}) {
		t.Errorf("%q", got)
	}
	if got := bound(s, m, "the dog", l); got != "0 false 0" {
		t.Error(got)
	}
}

// silentText is the text of rules with parts that may have no words, ahead of others, between them, and behind.
const silentText = `start S
rule S 1
cat A
cat B
cat A
source 1 2 3
target 3 2 1
rule A 2
source =a
target
rule A 5
source =a
target =p
rule A 4
source =a
target =p =q
rule B 3
source =b
target
rule B 1
source =b
target =r =r
`

// P5.4, P5.5: parts without words are passed over, and trees without words have a state too.
func TestProveSilent(t *testing.T) {
	s := ruled(silentText)
	m := api.Model{Unknown: 10, Words: []api.Uni{{Back: 100, Cost: 20}, {Word: "p", Cost: 1, Back: 3}, {Word: "r", Cost: 7}}, Pairs: []api.Bi{{Cost: 900}, {First: "p", Second: "p", Cost: 0}}}
	l := proof(t, s, m, "a b a")
	a := []string{"- - 2", "p p 5", "p q 17"} // q: 3 and 10
	want := []string{
		"0 " + a[0], "0 " + a[1], "0 " + a[2], "1 - - 3", "1 r r 8", "2 " + a[0], "2 " + a[1], "2 " + a[2],
		"3 - - 8",  // 1, 2, 3, 2
		"3 p p 11", // 1, 2, 3, 5
		"3 p q 23", // 1, 2, 3, 17
		"3 p r 26", // 1, 2, 8, 5 and 10
		"3 r p 17", // 1, 2, 8, 5 and 1
		"3 r q 29", // 1, 2, 8, 17 and 1
		"3 r r 13", // 1, 2, 8, 2
	}
	if got := shown(l); !slices.Equal(got, want) {
		t.Errorf("%q", got)
	}
	// p p: 101, 11, 3 and 20; p q: 101, 23, 20; p r: 101, 26, 20; r p: 107, 17, 23; r q: 107, 29, 20; r r: 107, 13, 20; none: 8, 900
	if got := bound(s, m, "a b a", l); got != "135 true 0" {
		t.Error(got)
	}
	if n := total(t, s, m, best(t, s, m, "a b a", 1)[0]); n != 135 {
		t.Error(n)
	}
	m.Pairs[0].Cost = 126
	if got := bound(s, m, "a b a", l); got != "134 true 0" {
		t.Error(got)
	}
	if got := written(best(t, s, m, "a b a", 1)[0]); got != "(0 (1) (4) (1))" {
		t.Error(got)
	}
}

// P5.4: a state that is reached by several rules, and in several ways by one, has the least cost.
func TestProveWays(t *testing.T) {
	s := ruled(`start S
rule S 0
cat A
cat A
source 1 2
target 1 =x 2
rule S 9
source =a =a
target =p =p
rule S 3
source =a =a
target =p =q =p
rule A 1
source =a
target =p
rule A 0
source =a
target =q
rule A 0
source =a
target =p =q =p
`)
	m := api.Model{Unknown: 1, Pairs: []api.Bi{{First: "p", Second: "x", Cost: 7}, {First: "q", Second: "p", Cost: 0}, {First: "x", Second: "p", Cost: 2}}}
	want := []string{"0 p p 1", "0 q q 0", "1 p p 1", "1 q q 0", "2 p p 4", "2 p q 9", "2 q p 4", "2 q q 2"}
	if got := shown(proof(t, s, m, "a a")); !slices.Equal(got, want) {
		t.Errorf("%q", got)
	}
}

// proofText is the text of rules with a lexical part, a part that may have no words, and an item above the goal.
const proofText = `start S
rule S 1
cat A
cat B
source 1 2
target 2 1
rule T 2
cat S
source 1
target =t 1
rule A 2
lex x x
source 1
target 1
rule A 3
source =x
target
rule B 4
source =b
target =r
`

// P5.5: proofs that are closed, though Prove does not return them, and proofs that are not.
func TestBound(t *testing.T) {
	s, m := ruled(proofText), api.Model{Unknown: 1}
	const lexical, parts, goal, above = "0 x x 0", ", 1 - - 3, 1 x x 2, 2 r r 4", ", 3 r r 8, 3 r x 8", ", 4 t r 11, 4 t x 11"
	if got := shown(proof(t, s, m, "x b")); !slices.Equal(got, strings.Split(lexical+parts+goal+above, ", ")) {
		t.Fatalf("%q", got)
	}
	const no = "0 false 8"
	for text, want := range map[string]string{
		lexical + parts + goal + above: "10 true 0",
		// costs that are less than they need be
		lexical + parts + ", 3 r r 7, 3 r x 6, 4 t r 0, 4 t x 9":                      "8 true 0",
		"0 x x 0, 1 - - 0, 1 x x 0, 2 r r 0, 3 r r 0, 3 r x 0, 4 t r 0, 4 t x 0":      "2 true 0",
		lexical + ", 1 - - 2, 1 x x 2, 2 r r 4, 3 r r 7, 3 r x 8, 4 t r 10, 4 t x 11": "9 true 0",
		lexical + ", 1 - - 2, 1 x x 2, 2 r r 4, 3 r r 8, 3 r x 8, 4 t r 10, 4 t x 11": no, // 3 r r
		lexical + parts + ", 3 r r 7, 3 r x 8" + above:                                no, // 4 t r
		// states that need not be there, and what comes of them
		lexical + parts + goal + ", 4 t r 11, 4 t x 11, 4 z z 0":                                 "10 true 0",
		lexical + parts + goal + ", 4 - - 5, 4 t r 11, 4 t x 11":                                 "10 true 0",
		lexical + parts + ", 3 - - 2" + goal + ", 4 t r 11, 4 t t 4, 4 t x 11":                   "3 true 0",
		lexical + parts + ", 3 - - 2" + goal + ", 4 t r 11, 4 t t 5, 4 t x 11":                   no, // 4 t t
		lexical + parts + ", 3 - - 2" + goal + above:                                             no, // 4 t t
		lexical + parts + goal + ", 3 z r 20, 4 t r 11, 4 t x 11":                                "10 true 0",
		lexical + parts + goal + ", 3 z z 2147483647" + ", 4 t r 11, 4 t x 11, 4 t z 2147483647": "10 true 0",
		lexical + parts + ", 3 r r 8, 3 r x 8, 3 r z 20" + above:                                 no, // 4 t z
		// of a lexical item there may be more than its form
		"0 x x 0, 0 y z 1, 1 - - 3, 1 x x 2, 1 y z 3, 2 r r 4, 3 r r 8, 3 r x 8, 3 r z 9, 4 t r 11, 4 t x 11, 4 t z 12": "10 true 0",
		"0 - - 7, 0 x x 0" + parts + goal + above: "10 true 0", // 1 - - is less than that
		"0 - - 0, 0 x x 0" + parts + goal + above: no,          // 1 - -
		"0 x y 0" + parts + goal + above:          no,
		"0 y y 0" + parts + goal + above:          no,
		"0 x x 1" + parts + goal + above:          no,
	} {
		if got := bound(s, m, "x b", states(text)); got != want {
			t.Errorf("%s: %s, want %s", text, got, want)
		}
	}
	if got := bound(s, m, "x b", nil); got != no {
		t.Error(got)
	}
}

// P5.5: no state of what Prove returns can be left out, or cost more.
func TestBoundBroken(t *testing.T) {
	for _, x := range []struct {
		s     api.System
		words string
	}{{given(), theWords}, {ruled(proofText), "x b"}, {ruled(silentText), "a b a"}, {ruled(choiceText), "a b"}} {
		l := proof(t, x.s, theModel(), x.words)
		for i := range l {
			if got := bound(x.s, theModel(), x.words, slices.Delete(slices.Clone(l), i, i+1)); got != "0 false 8" {
				t.Errorf("%s: without %v: %s", x.words, l[i], got)
			}
			more := slices.Clone(l)
			more[i].Cost++
			if got := bound(x.s, theModel(), x.words, more); got != "0 false 8" {
				t.Errorf("%s: with %v: %s", x.words, more[i], got)
			}
		}
	}
}

// P5.5: states that may not stand in any proof, or not in this order.
func TestBoundStates(t *testing.T) {
	s, m := ruled("start S\nrule S 5\nsource =a\ntarget =b\nrule T 5\nsource =a\ntarget =b\n"), api.Model{}
	one, two := api.State{First: "b", Last: "b", Cost: 5}, api.State{Item: 1, First: "b", Last: "b", Cost: 5}
	long := strings.Repeat("b", 24)
	for _, x := range []struct {
		want string
		l    []api.State
	}{
		{"5 true 0", []api.State{one, two}},
		{"0 true 0", []api.State{{First: "b", Last: "b"}, two}},
		{"2 true 0", []api.State{{First: "a", Last: "c", Cost: 2}, one, two}},
		{"5 true 0", []api.State{one, two, {Item: 1, First: long, Last: long, Cost: math.MaxInt32}}},
		{"5 true 0", []api.State{{Cost: math.MaxInt32}, one, {First: "b", Last: "c", Cost: 9}, {First: "c", Last: "a", Cost: 9}, two}},
		{"0 false 8", []api.State{two, one}},
		{"0 false 8", []api.State{one, one, two}},
		{"0 false 8", []api.State{one, {First: "b", Last: "b", Cost: 6}, two}},
		{"0 false 8", []api.State{{First: "b", Last: "b", Cost: 4}, one, two}},
		{"0 false 8", []api.State{{First: "c", Last: "a", Cost: 9}, one, two}},
		{"0 false 8", []api.State{{First: "b", Last: "c", Cost: 9}, one, two}},
		{"0 false 8", []api.State{one, {First: "b", Last: "a", Cost: 9}, two}},
		{"0 false 8", []api.State{one, {First: "a", Last: "b", Cost: 9}, two}},
		{"0 false 8", []api.State{one, {Cost: 9}, two}},
		{"0 false 8", []api.State{{Item: -1}, one, two}},
		{"0 false 8", []api.State{{Item: math.MinInt}, one, two}},
		{"0 false 8", []api.State{one, two, {Item: 2}}},
		{"0 false 8", []api.State{one, two, {Item: math.MaxInt}}},
		{"0 false 8", []api.State{{Last: "b"}, one, two}},
		{"0 false 8", []api.State{{First: "a"}, one, two}},
		{"0 false 8", []api.State{{First: "a", Last: " "}, one, two}},
		{"0 false 8", []api.State{one, two, {Item: 1, First: "é", Last: "b"}}},
		{"0 false 8", []api.State{one, two, {Item: 1, First: long + "b", Last: "b"}}},
		{"0 false 8", []api.State{one, two, {Item: 1, First: "c", Last: long + "b"}}},
		{"0 false 8", []api.State{{First: "b", Last: "b", Cost: -1}, two}},
		{"0 false 8", []api.State{{First: "b", Last: "b", Cost: math.MinInt}, two}},
		{"0 false 8", []api.State{{Cost: -1}, one, two}},
		{"0 false 8", []api.State{{Cost: math.MaxInt32 + 1}, one, two}},
	} {
		if got := bound(s, m, "a", x.l); got != x.want {
			t.Errorf("%v: %s, want %s", x.l, got, x.want)
		}
	}
	for _, words := range []string{"", "x"} { // no item can be listed
		for want, l := range map[string][]api.State{"0 false 0": nil, "0 false 8": {{}}} {
			if got := bound(s, m, words, l); got != want {
				t.Errorf("%q: %v: %s", words, l, got)
			}
		}
	}
}

// P5.5: proofs may have no state of a goal, but just if there is none.
func TestBoundWithoutGoal(t *testing.T) {
	s := ruled(proofText)
	s.Start = "B"
	l := proof(t, s, api.Model{}, "x b")
	if got := bound(s, api.Model{}, "x b", l); got != "0 false 0" {
		t.Error(got)
	}
	s.Start = "T"
	if got := bound(s, api.Model{}, "x b", l); got != "9 true 0" {
		t.Error(got)
	}
	s.Rules = append(s.Rules, api.Rule{Left: "T", Source: []api.Item{{Word: "x"}, {Word: "b"}}, Cost: 3}) // with another goal, that is not listed
	if got := bound(s, api.Model{}, "x b", l); got != "0 false 8" {
		t.Error(got)
	}
}

// manyStates is a system by which "x y" has as many states as a proof may have, and some more: 30 of x, 34 of y, and all couples of both in 16 items.
func manyStates(more int) api.System {
	rules := "start S0\n"
	for i := range 30 {
		rules += "rule X 1\nsource =x\ntarget =a" + strconv.Itoa(i) + "\n"
	}
	for i := range 34 {
		rules += "rule Y 1\nsource =y\ntarget =b" + strconv.Itoa(i) + "\n"
	}
	for i := range 16 {
		rules += "rule S" + strconv.Itoa(i) + " 1\ncat X\ncat Y\nsource 1 2\ntarget 1 2\n"
	}
	for i := range more {
		rules += "rule A" + strconv.Itoa(i) + " 1\nsource =x\ntarget\n"
	}
	return ruled(rules)
}

// P5.3 to P5.5: as many states as may be, and more. Best has no such limit.
func TestManyStates(t *testing.T) {
	words := []string{"x", "y"}
	m := api.Model{Unknown: 2, Pairs: []api.Bi{{First: "a7", Second: "b9", Cost: 1}}}
	l, e := decode.Prove(manyStates(0), m, words)
	if e != api.OK || len(l) != api.MaxStates {
		t.Fatal(len(l), e)
	}
	if got := bound(manyStates(0), m, "x y", l); got != "8 true 0" {
		t.Error(got)
	}
	if got := bound(manyStates(0), m, "x y", append(l, api.State{Item: l[len(l)-1].Item, First: "z", Last: "z"})); got != "0 false 3" {
		t.Error(got)
	}
	for _, more := range []int{1, 9} {
		if l, e := decode.Prove(manyStates(more), m, words); e != api.ErrLimit || len(l) != 0 {
			t.Error(more, len(l), e)
		}
	}
	for _, more := range []int{0, 1} {
		if got := writtenAll(best(t, manyStates(more), m, "x y", 2)); !slices.Equal(got, []string{"(64 (7) (39))", "(64 (0) (30))"}) {
			t.Error(got)
		}
	}
	if _, _, e := decode.Bound(manyStates(0), m, words, make([]api.State, api.MaxStates)); e != api.ErrState {
		t.Error(e)
	}
}

package train_test

import (
	"cmp"
	"fmt"
	"slices"
	"strings"
	"testing"

	"truchman/api"
	"truchman/decode"
	"truchman/train"
)

// sentences reads sentences: "a b; a".
func sentences(text string) [][]string {
	var out [][]string
	for _, x := range strings.Split(text, ";") {
		out = append(out, strings.Fields(x))
	}
	return out
}

// P6.6: the example of the chapter, and sentences without words.
func TestBuild(t *testing.T) {
	for text, want := range map[string]api.Model{
		"a b; a": {
			Unknown: 6,
			Words:   []api.Uni{{Word: "", Cost: 4, Back: 4}, {Word: "a", Cost: 4, Back: 2}, {Word: "b", Cost: 6, Back: 2}},
			Pairs:   []api.Bi{{First: "", Second: "a", Cost: 2}, {First: "a", Second: "", Cost: 4}, {First: "a", Second: "b", Cost: 4}, {First: "b", Second: "", Cost: 2}},
		},
		"": { // N is 1
			Unknown: 2, Words: []api.Uni{{Cost: 2, Back: 2}}, Pairs: []api.Bi{{Cost: 2}},
		},
		";": { // N is 2; two steps from the beginning to the end
			Unknown: 4, Words: []api.Uni{{Cost: 2, Back: 4}}, Pairs: []api.Bi{{Cost: 2}},
		},
		"; a;": { // N is 4; three steps from the beginning, to two words
			Unknown: 5,
			Words:   []api.Uni{{Cost: 2, Back: 3}, {Word: "a", Cost: 5, Back: 2}},
			Pairs:   []api.Bi{{Cost: 3}, {Second: "a", Cost: 5}, {First: "a", Cost: 2}},
		},
		"a a a": { // N is 4; three steps to a, and three from it, to two words
			Unknown: 5,
			Words:   []api.Uni{{Cost: 5, Back: 2}, {Word: "a", Cost: 2, Back: 3}},
			Pairs:   []api.Bi{{Second: "a", Cost: 2}, {First: "a", Cost: 5}, {First: "a", Second: "a", Cost: 3}},
		},
		"~ ! a": { // N is 4
			Unknown: 5,
			Words:   []api.Uni{{Cost: 5, Back: 2}, {Word: "!", Cost: 5, Back: 2}, {Word: "a", Cost: 5, Back: 2}, {Word: "~", Cost: 5, Back: 2}},
			Pairs:   []api.Bi{{Second: "~", Cost: 2}, {First: "!", Second: "a", Cost: 2}, {First: "a", Cost: 2}, {First: "~", Second: "!", Cost: 2}},
		},
	} {
		if got, e := train.Build(sentences(text)); fmt.Sprint(got) != fmt.Sprint(want) || e != api.OK {
			t.Errorf("%q: %v, error %d, want %v", text, got, e, want)
		}
	}
}

// different returns so many different words, in sentences that are as long as they may be.
func different(n int) [][]string {
	var out [][]string
	for i := range n {
		if i%api.MaxSent == 0 {
			out = append(out, nil)
		}
		out[i/api.MaxSent] = append(out[i/api.MaxSent], fmt.Sprintf("w%d", i))
	}
	return out
}

// P6.6: limits exactly reached and passed, and the errors in their order.
func TestBuildErrors(t *testing.T) {
	seventeen, bad := slices.Repeat([]string{"a"}, 17), []string{"a", "a b"}
	for i, x := range []struct {
		l    [][]string
		want api.Errno
	}{
		{nil, api.ErrArg},
		{make([][]string, 1), api.OK},
		{make([][]string, 64), api.OK},
		{make([][]string, 65), api.ErrLimit},
		{slices.Repeat([][]string{bad}, 65), api.ErrLimit},
		{[][]string{seventeen[:16]}, api.OK},
		{[][]string{seventeen}, api.ErrLimit},
		{[][]string{bad}, api.ErrArg},
		{[][]string{{""}}, api.ErrArg},
		{[][]string{{strings.Repeat("a", 24)}}, api.OK},
		{[][]string{{strings.Repeat("a", 25)}}, api.ErrArg},
		{[][]string{{"a", "\x7f"}}, api.ErrArg},
		{[][]string{append(slices.Clone(bad), seventeen...)}, api.ErrLimit},
		{[][]string{nil, bad, seventeen}, api.ErrArg},
		{[][]string{nil, seventeen, bad}, api.ErrLimit},
		{different(511), api.OK},
		{different(512), api.ErrLimit},
		{different(1024), api.ErrLimit},
		{append(different(511), []string{"w0", "w510", "w7"}, nil), api.OK},
		{append(different(600), bad), api.ErrArg},
		{append(different(600), seventeen), api.ErrLimit},
		{slices.Repeat([][]string{seventeen[:16]}, 64), api.OK},
	} {
		got, e := train.Build(x.l)
		if e != x.want || e != api.OK && (got.Unknown != 0 || len(got.Words) != 0 || len(got.Pairs) != 0) {
			t.Errorf("case %d: error %d, want %d", i, e, x.want)
		}
		if e == api.OK && decode.Check(got) != api.OK {
			t.Errorf("case %d: a model with the error %d", i, decode.Check(got))
		}
	}
	if m, _ := train.Build(different(511)); len(m.Words) != 512 {
		t.Error(len(m.Words))
	}
}

// modelOf returns the model of sentences, as the chapter says, by going through all steps for each number.
func modelOf(l [][]string) api.Model {
	var steps []api.Bi
	for _, words := range l {
		words = append(append([]string{""}, words...), "")
		for i := range words[1:] {
			steps = append(steps, api.Bi{First: words[i], Second: words[i+1]})
		}
	}
	number := func(wanted func(x api.Bi) bool) int {
		n := 0
		for _, x := range steps {
			if wanted(x) {
				n++
			}
		}
		return n
	}
	order := func(a, b api.Bi) int {
		return cmp.Or(strings.Compare(a.First, b.First), strings.Compare(a.Second, b.Second))
	}
	distinct := slices.Clone(steps)
	slices.SortFunc(distinct, order)
	distinct = slices.Compact(distinct)
	out := api.Model{Unknown: leastBits(1, len(steps)+1)}
	for _, x := range distinct {
		from := number(func(y api.Bi) bool { return y.First == x.First })
		kinds := 0
		for _, y := range distinct {
			if y.First == x.First {
				kinds++
			}
		}
		out.Pairs = append(out.Pairs, api.Bi{First: x.First, Second: x.Second, Cost: leastBits(number(func(y api.Bi) bool { return y == x }), from+kinds)})
		if n := len(out.Words); n > 0 && out.Words[n-1].Word == x.First {
			continue
		}
		to := number(func(y api.Bi) bool { return y.Second == x.First })
		out.Words = append(out.Words, api.Uni{Word: x.First, Cost: leastBits(to, len(steps)+1), Back: leastBits(kinds, from+kinds)})
	}
	return out
}

// P6.6: many sentences. Each model is valid, and has all steps of its sentences as pairs.
func TestBuildMany(t *testing.T) {
	r := dice()
	for range rounds {
		words := pick(r, []string{"a"}, []string{"a", "b"}, []string{"c", "a", "!", "ab", "b", "~"})
		l := [][]string{nil}
		l[0] = some(r, 5, func() string { return pick(r, words...) })
		l = append(l, some(r, pick(r, 2, 10, 63), func() []string {
			return some(r, 16, func() string { return pick(r, words...) })
		})...)
		before := fmt.Sprint(l)
		got, e := train.Build(l)
		if want := modelOf(l); e != api.OK || fmt.Sprint(got) != fmt.Sprint(want) {
			t.Fatalf("%q: %v, error %d, want %v", l, got, e, want)
		}
		if e := decode.Check(got); e != api.OK {
			t.Fatalf("%q: %v: error %d", l, got, e)
		}
		for i := range got.Words {
			got.Words[i].Word = "?"
		}
		for i := range got.Pairs {
			got.Pairs[i].First = "?"
		}
		if again, _ := train.Build(l); fmt.Sprint(again) != fmt.Sprint(modelOf(l)) || fmt.Sprint(l) != before {
			t.Fatalf("%q: %v", l, again)
		}
	}
}

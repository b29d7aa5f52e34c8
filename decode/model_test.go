package decode_test

import (
	"fmt"
	"math"
	"slices"
	"strings"
	"testing"

	"truchman/api"
	"truchman/decode"
)

const most = api.MaxCost

// word makes different words that rise with n.
func word(n int) string { return fmt.Sprintf("w%04d", n) }

func words(n int) []api.Uni {
	var out []api.Uni
	for i := range n {
		out = append(out, api.Uni{Word: word(i), Cost: i % 7, Back: i % 5})
	}
	return out
}

func pairs(n int) []api.Bi {
	var out []api.Bi
	for i := range n {
		out = append(out, api.Bi{First: word(i / 50), Second: word(i % 50), Cost: i % 9})
	}
	return out
}

// P5.1: what is allowed in a model, and what is not.
func TestCheck(t *testing.T) {
	for name, x := range map[string]struct {
		m    api.Model
		want api.Errno
	}{
		"of the chapter":          {theModel(), api.OK},
		"nothing":                 {api.Model{}, api.OK},
		"empty lists":             {api.Model{Words: []api.Uni{}, Pairs: []api.Bi{}}, api.OK},
		"Unknown greatest":        {api.Model{Unknown: most}, api.OK},
		"Unknown above":           {api.Model{Unknown: most + 1}, api.ErrArg},
		"Unknown below":           {api.Model{Unknown: -1}, api.ErrArg},
		"Unknown far below":       {api.Model{Unknown: math.MinInt}, api.ErrArg},
		"as many words as may be": {api.Model{Words: words(512)}, api.OK},
		"a word more":             {api.Model{Words: words(513)}, api.ErrLimit},
		"as many pairs as may be": {api.Model{Pairs: pairs(2048)}, api.OK},
		"a pair more":             {api.Model{Pairs: pairs(2049)}, api.ErrLimit},
		"costs at their bounds":   {api.Model{Words: []api.Uni{{Cost: most}, {Word: "a", Back: most}}, Pairs: []api.Bi{{Cost: most}}}, api.OK},
		"a cost above":            {api.Model{Words: []api.Uni{{Word: "a", Cost: most + 1}}}, api.ErrArg},
		"a cost below":            {api.Model{Words: []api.Uni{{Word: "a", Cost: -1}}}, api.ErrArg},
		"a back above":            {api.Model{Words: []api.Uni{{Word: "a", Back: most + 1}}}, api.ErrArg},
		"a back below":            {api.Model{Words: []api.Uni{{Word: "a", Back: -1}}}, api.ErrArg},
		"a cost of a pair above":  {api.Model{Pairs: []api.Bi{{First: "a", Cost: most + 1}}}, api.ErrArg},
		"a cost of a pair below":  {api.Model{Pairs: []api.Bi{{First: "a", Cost: -1}}}, api.ErrArg},
		"the longest words":       {api.Model{Words: []api.Uni{{Word: strings.Repeat("~", 24)}}, Pairs: []api.Bi{{First: strings.Repeat("!", 24), Second: strings.Repeat("Z", 24)}}}, api.OK},
		"a word too long":         {api.Model{Words: []api.Uni{{Word: strings.Repeat("a", 25)}}}, api.ErrArg},
		"a word with a blank":     {api.Model{Words: []api.Uni{{Word: "a b"}}}, api.ErrArg},
		"a word of no ASCII":      {api.Model{Words: []api.Uni{{Word: "é"}}}, api.ErrArg},
		"a First that is none":    {api.Model{Pairs: []api.Bi{{First: "\x7f"}}}, api.ErrArg},
		"a Second that is none":   {api.Model{Pairs: []api.Bi{{Second: "\x00"}}}, api.ErrArg},
		"a word twice":            {api.Model{Words: []api.Uni{{Word: "a"}, {Word: "a", Cost: 1}}}, api.ErrTwice},
		"the empty word twice":    {api.Model{Words: []api.Uni{{}, {Cost: 1}}}, api.ErrTwice},
		"a greater word ahead":    {api.Model{Words: []api.Uni{{Word: "b"}, {Word: "a"}}}, api.ErrArg},
		"the empty word behind":   {api.Model{Words: []api.Uni{{Word: "a"}, {}}}, api.ErrArg},
		"a word twice, but apart": {api.Model{Words: []api.Uni{{Word: "a"}, {Word: "b"}, {Word: "a"}}}, api.ErrArg},
		"a longer word behind":    {api.Model{Words: []api.Uni{{Word: "a"}, {Word: "aa"}, {Word: "b"}}}, api.OK},
		"bytes, not letters":      {api.Model{Words: []api.Uni{{Word: "B"}, {Word: "a"}}}, api.OK},
		"pairs in order":          {api.Model{Pairs: []api.Bi{{}, {Second: "a"}, {First: "a"}, {First: "a", Second: "a"}, {First: "a", Second: "b"}, {First: "aa"}, {First: "b"}}}, api.OK},
		"a pair twice":            {api.Model{Pairs: []api.Bi{{First: "a", Second: "b"}, {First: "a", Second: "b", Cost: 1}}}, api.ErrTwice},
		"the empty pair twice":    {api.Model{Pairs: []api.Bi{{}, {Cost: 1}}}, api.ErrTwice},
		"a greater First ahead":   {api.Model{Pairs: []api.Bi{{First: "b", Second: "a"}, {First: "a", Second: "b"}}}, api.ErrArg},
		"a greater Second ahead":  {api.Model{Pairs: []api.Bi{{First: "a", Second: "b"}, {First: "a", Second: "a"}}}, api.ErrArg},
	} {
		if e := decode.Check(x.m); e != x.want {
			t.Errorf("%s: error %d, want %d", name, e, x.want)
		}
		for _, call := range []func() (int, api.Errno){
			func() (int, api.Errno) { return decode.Step(x.m, "a", "b") },
			func() (int, api.Errno) { return decode.Score(x.m, []string{"a"}) },
			func() (int, api.Errno) { return decode.Total(given(), x.m, tree(theTree)) },
		} {
			if n, e := call(); e != x.want || e != api.OK && n != 0 {
				t.Errorf("%s: %d, error %d, want %d", name, n, e, x.want)
			}
		}
	}
}

// P5.1: of several errors of a model the first one decides: each of these stands ahead of those behind it.
func TestCheckOrder(t *testing.T) {
	changes := []struct {
		change func(m *api.Model)
		want   api.Errno
	}{
		{func(m *api.Model) { m.Unknown = -1 }, api.ErrArg},
		{func(m *api.Model) { m.Pairs = append(m.Pairs, pairs(2049)...) }, api.ErrLimit},
		{func(m *api.Model) { m.Words[1].Word = " " }, api.ErrArg},
		{func(m *api.Model) { m.Words[3].Word = m.Words[2].Word }, api.ErrTwice},
		{func(m *api.Model) { m.Words[5].Word = "a" }, api.ErrArg},
		{func(m *api.Model) { m.Words[7].Word = m.Words[6].Word }, api.ErrTwice},
		{func(m *api.Model) { m.Pairs[1].Second = " " }, api.ErrArg},
		{func(m *api.Model) { m.Pairs[3] = m.Pairs[2] }, api.ErrTwice},
		{func(m *api.Model) { m.Pairs[5].First = "a" }, api.ErrArg},
		{func(m *api.Model) { m.Pairs[7] = m.Pairs[6] }, api.ErrTwice},
	}
	for i, x := range changes {
		for _, y := range changes[i:] {
			m := api.Model{Words: words(9), Pairs: pairs(9)}
			y.change(&m)
			x.change(&m)
			if e := decode.Check(m); e != x.want {
				t.Errorf("change %d: error %d, want %d", i, e, x.want)
			}
		}
	}
	m := api.Model{Words: []api.Uni{{Word: "b"}, {Word: "b", Cost: -1}}, Pairs: []api.Bi{{First: "b"}, {First: "b", Cost: -1}}}
	if e := decode.Check(m); e != api.ErrArg {
		t.Error("an element that stands twice and has a cost that is none:", e)
	}
	m.Words = nil
	if e := decode.Check(m); e != api.ErrArg {
		t.Error("a pair that stands twice and has a cost that is none:", e)
	}
	m = api.Model{Words: words(513), Pairs: []api.Bi{{Cost: -1}}}
	if e := decode.Check(m); e != api.ErrLimit {
		t.Error("too many words:", e)
	}
}

// P5.1: the examples of the chapter, and steps of each kind.
func TestStep(t *testing.T) {
	m := api.Model{
		Unknown: 100,
		Words:   []api.Uni{{Cost: 1, Back: 20}, {Word: "a", Cost: 3, Back: 40}, {Word: "b", Cost: 5, Back: 60}},
		Pairs:   []api.Bi{{Cost: 7}, {Second: "b", Cost: 8}, {First: "a", Cost: 9}, {First: "a", Second: "b", Cost: 0}, {First: "x", Second: "y", Cost: 6}},
	}
	for _, x := range []struct {
		m    api.Model
		a, b string
		want int
	}{
		{theModel(), "", "der", 3}, {theModel(), "der", "hund", 0}, {theModel(), "hund", "der", 1}, {theModel(), "sehen", "", 1},
		{theModel(), "der", "hunde", 5}, {theModel(), "", "", 3}, {theModel(), "x", "y", 4},
		{m, "", "", 7}, {m, "", "a", 23}, {m, "", "b", 8}, {m, "", "c", 120}, {m, "a", "", 9}, {m, "b", "", 61}, {m, "c", "", 1},
		{m, "a", "a", 43}, {m, "a", "b", 0}, {m, "a", "c", 140}, {m, "b", "a", 63}, {m, "c", "a", 3}, {m, "c", "d", 100}, {m, "x", "y", 6}, {m, "y", "x", 100},
		{api.Model{Unknown: 5}, "", "", 5}, {api.Model{Unknown: 5}, "a", "", 5}, {api.Model{}, "a", "b", 0},
		{api.Model{Unknown: most, Words: []api.Uni{{Word: "a", Back: most}}}, "a", "b", 2 * most},
	} {
		if n, e := decode.Step(x.m, x.a, x.b); n != x.want || e != api.OK {
			t.Errorf("Step(%q, %q): %d, error %d, want %d", x.a, x.b, n, e, x.want)
		}
	}
	long := strings.Repeat("a", 24)
	for _, s := range []string{" ", "a b", long + "a", "é", "\x7f", "a\n"} {
		for _, l := range [][2]string{{s, ""}, {"", s}, {s, s}} {
			if n, e := decode.Step(m, l[0], l[1]); n != 0 || e != api.ErrArg {
				t.Errorf("Step(%q): %d, error %d", l, n, e)
			}
		}
	}
	if n, e := decode.Step(m, long, long); n != 100 || e != api.OK {
		t.Error(n, e)
	}
	if n, e := decode.Step(api.Model{Words: words(513)}, " ", ""); n != 0 || e != api.ErrLimit {
		t.Error(n, e)
	}
}

// P5.1: scores, that of no words too, and the errors in their order.
func TestScore(t *testing.T) {
	for text, want := range map[string]int{"": 3, "der": 5, "der hund der hunde sehen": 14, "hund": 7, "der hund": 4, "der der": 7} {
		if n, e := decode.Score(theModel(), strings.Fields(text)); n != want || e != api.OK {
			t.Errorf("Score(%s): %d, error %d, want %d", text, n, e, want)
		}
	}
	many := slices.Repeat([]string{"a"}, 4097)
	if n, e := decode.Score(theModel(), many[:4096]); n != 6+4*4095+1 || e != api.OK {
		t.Error(n, e)
	}
	if n, e := decode.Score(theModel(), many); n != 0 || e != api.ErrLimit {
		t.Error(n, e)
	}
	many[0] = ""
	if n, e := decode.Score(theModel(), many); n != 0 || e != api.ErrLimit {
		t.Error(n, e)
	}
	for _, l := range [][]string{{""}, {"a", ""}, {" "}, {"a", "b c", "d"}, {strings.Repeat("a", 25)}, many[:4096]} {
		if n, e := decode.Score(theModel(), l); n != 0 || e != api.ErrArg {
			t.Errorf("Score(%.20q): %d, error %d", l, n, e)
		}
		if n, e := decode.Score(api.Model{Words: words(513)}, l); n != 0 || e != api.ErrLimit {
			t.Errorf("Score(%.20q): %d, error %d", l, n, e)
		}
	}
}

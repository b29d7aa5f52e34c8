package terms_test

import (
	"fmt"
	"math"
	"slices"
	"strings"
	"testing"

	"truchman/api"
	"truchman/terms"
)

// texts reads texts: "a b; c".
func texts(s string) [][]string {
	var out [][]string
	for _, x := range strings.Split(s, ";") {
		out = append(out, fields(x))
	}
	return out
}

// P7.2: proposals.
func TestPropose(t *testing.T) {
	for _, x := range []struct {
		terms, texts string
		least        int
		want         string
	}{
		{"", "", 1, ""},
		{"", "a", 1, "1 a"},
		{"", "a", 2, ""},
		{"", "a b", 1, "1 a b"},
		{"", "a b c", 1, "1 a b c"},
		{"", "a b c d", 1, "1 a b c; 1 b c d"},
		{"", "a b; a c", 1, "2 a; 1 a b; 1 a c"},
		{"", "a b; b a; a", 2, "3 a; 2 b"},
		{"", "a b c; a b; c", 1, "2 a b; 2 c; 1 a b c"}, // a and b count as a b does
		{"", "a b c; a b; c", 2, "2 a b; 2 c"},
		{"", "a b c; a b c; b c", 2, "3 b c; 2 a b c"},
		{"", "a b c; b; c", 1, "2 b; 2 c; 1 a b c"},
		{"", "a b c; a c", 1, "2 a; 2 c; 1 a b c; 1 a c"}, // a c are no neighbours in a b c
		{"", "a b c; a c; a c", 1, "3 a; 3 c; 2 a c; 1 a b c"},
		{"", "a a a", 1, "3 a; 2 a a; 1 a a a"},
		{"", "a a; a a", 1, "4 a; 2 a a"},
		{"", "a b a", 1, "2 a; 1 a b a"},
		{"", "a b a b", 1, "2 a b; 1 a b a; 1 b a b"},
		{"", "a b; a b; a b", 3, "3 a b"},
		{"", "a b; a b; a b", 4, ""},
		{"", "a b; a b; a b", math.MaxInt, ""},
		// The order: by count, then the longer ones, then element by element.
		{"", "b; ba; a; ab", 1, "1 a; 1 ab; 1 b; 1 ba"},
		{"", "b a; a c; ab a; b", 1, "3 a; 2 b; 1 a c; 1 ab a; 1 b a"},
		{"", "z; y x; w v u; t; t", 1, "2 t; 1 w v u; 1 y x; 1 z"},
		{"", "a é; a z; zz", 1, "2 a; 1 a z; 1 a é; 1 zz"},
		// Lemmas: those of the words' first analyses without first parts, otherwise the words.
		{"", "nets Nets NET netted", 1, "3 net; 2 net net; 1 net net net; 1 net net netted"},
		{"", "webs planted ROOTSS annas", 1, "1 plant roots annas; 1 web plant roots"}, // web, not webs
		{"", "nets webs; net web; Web Nets", 1, "3 net; 3 web; 2 net web; 1 web net"},
		{"", "netnet netwebs", 1, "1 netnet netwebs"}, // compounds have first parts
		{"", "Straße Straßen ÉTÉ", 1, "1 straße straßen ÉtÉ"},
		{"", strings.Repeat("Ab", 100), 1, "1 " + strings.Repeat("ab", 100)},
		// Words that are not open part rows: marks, digits, tags, holes, what is no UTF-8, and other runes.
		{"", "a , b", 1, "1 a; 1 b"},
		{"", "a 7 b", 1, "1 a; 1 b"},
		{"", "a b7 7b b", 1, "1 a; 1 b"},
		{"", "a <b> b {n} c </b>", 1, "1 a; 1 b; 1 c"},
		{"", "a \xff b \xc3 c a\xff", 1, "1 a; 1 b; 1 c"},
		{"", "a b-c d . e a. é. [ ` @ {", 1, "1 a; 1 d; 1 e"},
		{"", "\x7f a \u0080 \ufffd", 1, "1 a \u0080 \ufffd"},
		{"", "a b . c d ! a b", 1, "2 a b; 1 c d"},
		// Words of occurrences that Find returns are not open.
		{"en p net", "a nets b net c", 1, "1 a; 1 b; 1 c"},
		{"en f net web", "a nets web b", 1, "1 a; 1 b"},
		{"en f net web", "a net b web", 1, "1 a net b; 1 net b web"},
		{"en p net web; en f web a", "net web a b", 1, "1 a b"}, // web a is not found
		{"en p net web; en f web a", "net web a; web a", 1, "1 a"},
		{"de p net", "a nets b", 1, "1 a net b"},
		{"en p =Nets", "a nets Nets b", 1, "1 a net; 1 b"},
		{"en p =. a", "a . a b", 1, "1 a; 1 b"},
		{"en p web net", "web ; net", 1, "1 net; 1 web"}, // no row goes over texts
	} {
		got, e := terms.Propose(concepts(x.terms), tongue("en", several), texts(x.texts), x.least)
		if proposed(got) != x.want || e != api.OK {
			t.Errorf("%s in %s: %s, error %d, want %s", x.terms, x.texts, proposed(got), e, x.want)
		}
	}
}

// P7.2: empty words are not open, and words with blanks are not.
func TestProposeOfAnyWords(t *testing.T) {
	words := []string{"a", "", "b", "c d", "e", "\n", "f", " ", "g", "é\t"}
	if l, e := terms.Propose(api.Termbase{}, mute("en"), [][]string{words, nil, {}}, 1); proposed(l) != "1 a; 1 b; 1 e; 1 f; 1 g" || e != api.OK {
		t.Errorf("%s, error %d", proposed(l), e)
	}
	if l, e := terms.Propose(api.Termbase{}, mute("en"), nil, 1); l != nil || e != api.OK {
		t.Errorf("%s, error %d", proposed(l), e)
	}
}

// P7.2: which words are of letters alone.
func TestLetters(t *testing.T) {
	for r := rune(0); r < 300; r++ {
		letter := 'A' <= r && r <= 'Z' || 'a' <= r && r <= 'z' || r > 127
		for _, word := range []string{string(r), "a" + string(r), string(r) + "a", "é" + string(r) + "é"} {
			l, e := terms.Propose(api.Termbase{}, mute("en"), [][]string{{word}}, 1)
			if e != api.OK || (len(l) == 1) != letter {
				t.Errorf("%q: %s, error %d", word, proposed(l), e)
			}
		}
	}
}

// P7.2: the errors of Propose, in their order.
func TestProposeErrors(t *testing.T) {
	long, many := slices.Repeat([]string{"."}, 513), make([][]string, 257)
	bad := concepts("en p Net")
	for i, x := range []struct {
		b     api.Termbase
		x     api.Tongue
		texts [][]string
		least int
		want  api.Errno
	}{
		{bad, crooked("1"), many, 0, api.ErrForm},
		{concepts(""), crooked("1"), many, 0, api.ErrName},
		{concepts(""), crooked("en"), many, 0, crookedIs},
		{concepts(""), twisted("en"), many, 0, twistedIs},
		{concepts(""), english(), many, 0, api.ErrArg},
		{concepts(""), english(), [][]string{long}, 0, api.ErrArg},
		{concepts(""), english(), nil, 0, api.ErrArg},
		{concepts(""), english(), nil, -1, api.ErrArg},
		{concepts(""), english(), nil, math.MinInt, api.ErrArg},
		{concepts(""), english(), many, 1, api.ErrLimit},
		{concepts(""), english(), [][]string{nil, long, nil}, 1, api.ErrLimit},
		{concepts(""), english(), append(make([][]string, 255), long), 1, api.ErrLimit},
		{concepts(""), english(), append(make([][]string, 255), long[:512]), 1, api.OK},
	} {
		if l, e := terms.Propose(x.b, x.x, x.texts, x.least); l != nil || e != x.want {
			t.Errorf("case %d: %s, error %d, want %d", i, proposed(l), e, x.want)
		}
	}
	for _, f := range faults() {
		b := sound()
		f.spoil(&b)
		if l, e := terms.Propose(b, crooked("1"), many, 0); l != nil || e != f.e {
			t.Errorf("%s: %s, error %d, want %d", f.name, proposed(l), e, f.e)
		}
	}
}

// P7.2: the most texts with the most words; all of them count.
func TestProposeOfMany(t *testing.T) {
	var l [][]string
	for i := range api.MaxSides {
		l = append(l, slices.Repeat([]string{"nets", "web", fmt.Sprint("x", strings.Repeat("y", i%10))}, 171)[:512])
	}
	got, e := terms.Propose(concepts("en f y"), english(), l, 256*170)
	if want := fmt.Sprint(256*171, " net web"); proposed(got) != want || e != api.OK {
		t.Errorf("%s, error %d, want %s", proposed(got), e, want)
	}
}

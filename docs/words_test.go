package docs_test

import (
	"slices"
	"strings"
	"testing"

	"truchman/api"
	"truchman/docs"
)

// Tests of P1.4: words.

func TestWords(t *testing.T) {
	for s, want := range map[string][]string{
		"":                         nil,
		"   ":                      nil,
		"Hi, <b>you</b>!":          {"Hi", ",", "<b>", "you", "</b>", "!"},
		"Hi, (A4)! {n}":            {"Hi", ",", "(", "A4", ")", "!", "{n}"},
		" a  b ":                   {"a", "b"},
		"...":                      {".", ".", "."},
		"a-b_c":                    {"a", "-", "b", "_", "c"},
		"café日本42":                 {"café日本42"},
		"\u0080\u00a0":             {"\u0080\u00a0"},
		`\<b>\{n}\\`:               {"<", "b", ">", "{", "n", "}", `\`},
		"x<b>y</b>z":               {"x", "<b>", "y", "</b>", "z"},
		"x{n}y":                    {"x", "{n}", "y"},
		"<+b><i>x<br/></i></+b>":   {"<+b>", "<i>", "x", "<br/>", "</i>", "</+b>"},
		"0123456789AZaz@[`{n}/:\"": {"0123456789AZaz", "@", "[", "`", "{n}", "/", ":", `"`},
	} {
		if w, e := docs.Words(read(t, s)); !slices.Equal(w, want) || e != api.OK {
			t.Errorf("Words(%q): %q, error %d, want %q", s, w, e, want)
		}
	}
	for e, l := range crooked() {
		if w, f := docs.Words(l); w != nil || f != e {
			t.Errorf("%v: %q, error %d, want %d", l, w, f, e)
		}
	}
	for n, want := range map[int]api.Errno{api.MaxWords: api.OK, api.MaxWords + 1: api.ErrLimit, 10 * api.MaxWords: api.ErrLimit} {
		for _, l := range [][]api.Piece{
			pieces(text(strings.Repeat(".", n))),
			pieces(text(strings.Repeat("a ", n))),
			pieces(lone("br"), text(strings.Repeat("-", n-2)), gap("n")),
			pieces(text(strings.Repeat("-", n-1) + "ab")),
		} {
			if w, e := docs.Words(l); e != want || e != api.OK && w != nil || e == api.OK && len(w) != n {
				t.Errorf("%d words: %d, error %d, want %d", n, len(w), e, want)
			}
		}
	}
}

func TestCheckWords(t *testing.T) {
	for _, w := range []string{"a", "A4", "é1", "日本", "7", ".", "<", "{", `\`, "~", "-", "{n}", "{a-1}", "<br/>", "\ufffd", "\u0080", strings.Repeat("a", 1000)} {
		if e := docs.CheckWords([]string{w}); e != api.OK {
			t.Errorf("%q: error %d", w, e)
		}
	}
	for _, w := range []string{"", " ", "a b", " a", "a ", "..", "a.", ".a", "é-", "<>", "<B>", "<b/", "{}", "{N}", "{n", "{n}{n}", "{n}a", "<b> ", "<b></b>", "<+b/>", `\<`, "\t", "\n", "\x00", "a\n", "\x7f", "\xff", "a\xff", "é\x80", "<" + strings.Repeat("a", 17) + "/>"} {
		if e := docs.CheckWords([]string{w}); e != api.ErrForm {
			t.Errorf("%q: error %d", w, e)
		}
	}
	nest := func(n int) []string {
		return append(slices.Repeat([]string{"<b>"}, n), slices.Repeat([]string{"</b>"}, n)...)
	}
	for _, x := range []struct {
		words []string
		want  api.Errno
	}{
		{nil, api.OK},
		{fields("a b a b"), api.OK},
		{fields("<b> a </b> <+b>"), api.ErrState},
		{fields("<+b> a </b> b"), api.OK},
		{fields("<+b> <i> a </+i> </+b>"), api.OK},
		{fields("a <+b> </b>"), api.ErrState},
		{fields("<b> </+b> a"), api.ErrState},
		{fields("<b> a"), api.ErrScope},
		{fields("a </b>"), api.ErrScope},
		{fields("<b> <i> </b> </i>"), api.ErrScope},
		{fields("a </b> .."), api.ErrForm},
		{nest(api.MaxTags), api.OK},
		{nest(api.MaxTags + 1), api.ErrLimit},
		{slices.Repeat([]string{"a"}, api.MaxWords), api.OK},
		{slices.Repeat([]string{"{n}"}, api.MaxWords), api.OK},
		{slices.Repeat([]string{"a"}, api.MaxWords+1), api.ErrLimit},
		{slices.Repeat([]string{".."}, api.MaxWords+1), api.ErrLimit},
	} {
		if e := docs.CheckWords(x.words); e != x.want {
			t.Errorf("%.8q: error %d, want %d", x.words, e, x.want)
		}
	}
}

func TestFromWords(t *testing.T) {
	for s, want := range map[string]string{
		"":                                  "",
		"a":                                 "a",
		"a b":                               "a b",
		"Hi , <b> you </b> ( A4 ) ! {n}":    "Hi, <b>you</b> (A4)! {n}",
		"a . b , c ; d : e ! f ? g ) h ] i": "a. b, c; d: e! f? g) h] i",
		"( a [ b":                           "(a [b",
		"( ( a ) )":                         "((a))",
		"( .":                               "(.",
		"a - b / c":                         "a - b / c",
		"\" a '":                            "\" a '",
		"{n} {m} . {n}":                     "{n} {m}. {n}",
		"( {n} )":                           "({n})",
		"< b > { }":                         `\< b > \{ }`,
		"é 日":                               "é 日",
		// tags between two bare words
		"a <b> b </b> c":              "a <b>b</b> c",
		"<b> a </b> <i> b </i>":       "<b>a</b> <i>b</i>",
		"<b> <i> a </i> </b> b":       "<b><i>a</i></b> b",
		"<b> a <i> </i> </b> b":       "<b>a <i></i></b>b",
		"<b> a </b> <br/> <i> </i> b": "<b>a</b> <br/><i></i>b",
		"a <br/> b":                   "a <br/>b",
		"a <b> . </b>":                "a<b>.</b>",
		"<b> a </b> <br/> .":          "<b>a</b><br/>.",
		"( <b> a </b> )":              "(<b>a</b>)",
		"<b> ( </b> <i> a </i>":       "<b>(</b><i>a</i>",
		"<b> </b> a":                  "<b></b>a",
		"a <b> </b>":                  "a<b></b>",
		"<b> </b> <br/>":              "<b></b><br/>",
		"<+b> a </b> <i> b </+i>":     "<+b>a</b> <i>b</+i>",
		"<b> {n} </b> a":              "<b>{n}</b> a",
	} {
		l, e := docs.FromWords(fields(s))
		if e != api.OK || written(t, l) != want {
			t.Errorf("FromWords(%q): %v, error %d, want %q", s, l, e, want)
		}
	}
}

func TestFromWordsErrors(t *testing.T) {
	for n, want := range map[int]api.Errno{256: api.OK, 257: api.ErrLimit, api.MaxWords + 1: api.ErrLimit} {
		l, e := docs.FromWords(slices.Repeat([]string{"{n}"}, n))
		if e != want || e != api.OK && l != nil || e == api.OK && len(l) != 2*n-1 {
			t.Errorf("%d holes: %d pieces, error %d, want %d", n, len(l), e, want)
		}
	}
	holes := append([]string{"a", "."}, slices.Repeat([]string{"{n}"}, 256)...)
	if l, e := docs.FromWords(holes); len(l) != api.MaxPieces || e != api.OK {
		t.Errorf("%d pieces, error %d", len(l), e)
	}
	if l, e := docs.FromWords(append(slices.Clone(holes), ".")); l != nil || e != api.ErrLimit {
		t.Errorf("%d pieces, error %d", len(l), e)
	}
	if l, e := docs.FromWords(append(slices.Clone(holes), "<br/>")); l != nil || e != api.ErrLimit {
		t.Errorf("%d pieces, error %d", len(l), e)
	}
	for _, x := range []struct {
		words []string
		want  api.Errno
	}{{[]string{"a b"}, api.ErrForm}, {[]string{"a", "<+b>", "</b>"}, api.ErrState}, {[]string{"<b>"}, api.ErrScope}, {fields("a <b> b"), api.ErrScope}, {fields("a </b>"), api.ErrScope}} {
		if l, e := docs.FromWords(x.words); l != nil || e != x.want {
			t.Errorf("FromWords(%q): %v, error %d, want %d", x.words, l, e, x.want)
		}
	}
}

func TestBare(t *testing.T) {
	for _, x := range []struct{ words, want []string }{
		{nil, nil},
		{[]string{"Hi", ",", "<b>", "you", "</b>", "{n}"}, []string{"Hi", ",", "you", "{n}"}},
		{[]string{"<b>", "</b>", "<+b>", "</+b>", "<b/>"}, nil},
		{[]string{"", "a b", "<B>", "<+b/>", "<>", "<b> ", "\xff", "<", "{"}, []string{"", "a b", "<B>", "<+b/>", "<>", "<b> ", "\xff", "<", "{"}},
		{[]string{"</b>", "</b>", "a"}, []string{"a"}},
	} {
		if got := docs.Bare(x.words); !slices.Equal(got, x.want) {
			t.Errorf("Bare(%q): %q, want %q", x.words, got, x.want)
		}
	}
	if got := docs.Bare(slices.Repeat([]string{"x"}, 5000)); len(got) != 5000 {
		t.Errorf("a long list: %d", len(got))
	}
}

func TestTags(t *testing.T) {
	for s, want := range map[string][]string{
		"":                    nil,
		"a{n}":                nil,
		"<b>x</b><br/>{n}":    {"<b>", "</b>", "<br/>"},
		`\<b><i></i>`:         {"<i>", "</i>"},
		"<+b>a<i>b</+i></+b>": {"<+b>", "<i>", "</+i>", "</+b>"},
		"<b></b><b></b><b/>":  {"<b>", "</b>", "<b>", "</b>", "<b/>"},
	} {
		if got, e := docs.Tags(read(t, s)); !slices.Equal(got, want) || e != api.OK {
			t.Errorf("Tags(%q): %q, error %d, want %q", s, got, e, want)
		}
	}
	for e, l := range crooked() {
		if got, f := docs.Tags(l); got != nil || f != e {
			t.Errorf("%v: %q, error %d, want %d", l, got, f, e)
		}
	}
}

package docs_test

import (
	"slices"
	"testing"

	"truchman/api"
	"truchman/docs"
)

// Tests of P1.3: cutting, gluing, segments.

func TestCut(t *testing.T) {
	for _, x := range []struct {
		l    string
		at   []int
		want []string
	}{
		{"", nil, []string{""}},
		{"<br/>", nil, []string{"<br/>"}},
		{"<b>One. Two</b>", []int{5}, []string{"<b>One. </+b>", "<+b>Two</b>"}},
		{"<b>x</b><i>y</i>", []int{1}, []string{"<b>x</b>", "<i>y</i>"}},
		{"<b><i>x</i></b>y", []int{1}, []string{"<b><i>x</i></b>", "y"}},
		{"<b><i>xy</i></b>", []int{1}, []string{"<b><i>x</+i></+b>", "<+b><+i>y</i></b>"}},
		{"<b>x<i></i></b>y", []int{1}, []string{"<b>x</+b>", "<+b><i></i></b>y"}},
		{"<b>x<br/></b>y", []int{1}, []string{"<b>x</+b>", "<+b><br/></b>y"}},
		{"<b>x</b><br/>y", []int{1}, []string{"<b>x</b>", "<br/>y"}},
		{"<a><b>x</b><i></i></a>y", []int{1}, []string{"<a><b>x</b></+a>", "<+a><i></i></a>y"}},
		{"<a>x<br/>y</a>", []int{1}, []string{"<a>x</+a>", "<+a><br/>y</a>"}},
		{"<b>xyz</b>", []int{1, 2}, []string{"<b>x</+b>", "<+b>y</+b>", "<+b>z</b>"}},
		{"<+b>xy</+b>", []int{1}, []string{"<+b>x</+b>", "<+b>y</+b>"}},
		{"<+b>x</b>y", []int{1}, []string{"<+b>x</b>", "y"}},
		{"{n}{m}", []int{1}, []string{"{n}", "{m}"}},
		{"a{n}b", []int{1, 2}, []string{"a", "{n}", "b"}},
		{"é日<i>\\<</i>", []int{1, 2}, []string{"é", "日", "<i>\\<</i>"}},
		{"<i></i>ab<i></i>", []int{1}, []string{"<i></i>a", "b<i></i>"}},
	} {
		parts, e := docs.Cut(read(t, x.l), x.at)
		if e != api.OK || !slices.Equal(writtenAll(t, parts), x.want) {
			t.Errorf("Cut(%q, %v): %v, error %d, want %v", x.l, x.at, parts, e, x.want)
		}
	}
}

func TestCutErrors(t *testing.T) {
	for _, x := range []struct {
		l  string
		at []int
	}{
		{"", []int{0}}, {"", []int{1}}, {"a", []int{1}}, {"abc", []int{0}}, {"abc", []int{3}}, {"abc", []int{-1}},
		{"abc", []int{1, 1}}, {"abc", []int{2, 1}}, {"abc", []int{1, 2, 3}}, {"abc", []int{1, 0}}, {"<b>a</b>", []int{1}},
		{"abc", []int{-1 << 63}}, {"abc", []int{1<<63 - 1}},
	} {
		if parts, e := docs.Cut(read(t, x.l), x.at); parts != nil || e != api.ErrArg {
			t.Errorf("Cut(%q, %v): %v, error %d", x.l, x.at, parts, e)
		}
	}
	for e, l := range crooked() {
		if parts, f := docs.Cut(l, []int{-1}); parts != nil || f != e {
			t.Errorf("%v: %v, error %d, want %d", l, parts, f, e)
		}
	}
}

// No part is longer than the list: what is closed for now in one part is closed in a later one.
func TestCutLongest(t *testing.T) {
	for depth := range api.MaxTags + 1 {
		tags := repeat(api.MaxPieces-2*depth-1, lone("br"))
		ahead := slices.Concat(repeat(depth, open("b")), tags, pieces(text("xy")), repeat(depth, shut("b")))
		behind := slices.Concat(repeat(depth, open("b")), pieces(text("xy")), tags, repeat(depth, shut("b")))
		for i, l := range [][]api.Piece{ahead, behind} {
			parts, e := docs.Cut(l, []int{1})
			if e != api.OK || len(parts) != 2 || len(parts[i]) != api.MaxPieces {
				t.Errorf("depth %d: %d parts, error %d", depth, len(parts), e)
			}
		}
	}
}

func TestGlue(t *testing.T) {
	for _, x := range []struct {
		parts []string
		want  string
		e     api.Errno
	}{
		{[]string{""}, "", api.OK},
		{[]string{"", "", ""}, "", api.OK},
		{[]string{"a", "", "b", "c"}, "abc", api.OK},
		{[]string{"<b>One. </+b>", "<+b>Two</b>"}, "<b>One. Two</b>", api.OK},
		{[]string{"<b><i>x</+i></+b>", "<+b><+i>y</i></b>"}, "<b><i>xy</i></b>", api.OK},
		{[]string{"a<b></+b>", "<+b></+b>", "<+b>c</b>"}, "a<b>c</b>", api.OK},
		{[]string{"<b>x</+b>", "<+b></+b>", "<+b>y</b>"}, "<b>xy</b>", api.OK},
		{[]string{"<+b>x</+b>"}, "<+b>x</+b>", api.OK},
		{[]string{"<+b>x</+b>", "<+b>y</+b>"}, "<+b>xy</+b>", api.OK},
		{[]string{"{n}", "{m}", "<b></b>"}, "{n}{m}<b></b>", api.OK},
		{[]string{"x<b>y</b>", "<b>z</b>"}, "x<b>y</b><b>z</b>", api.OK},

		{nil, "", api.ErrArg},
		{[]string{"<b>x</+b>", "y"}, "", api.ErrClash},
		{[]string{"x", "<+b>y</b>"}, "", api.ErrClash},
		{[]string{"<b>x</+b>", "<+i>y</i>"}, "", api.ErrClash},
		{[]string{"<b><i>x</+i></+b>", "<+i><+b>y</b></i>"}, "", api.ErrClash},
		{[]string{"<b><i>x</+i></+b>", "<+b>y</b>"}, "", api.ErrClash},
		{[]string{"<b>x</+b>", "<+b><+b>y</b></b>"}, "", api.ErrClash},
		{[]string{"<b>x</+b>", "", "<+b>y</b>"}, "", api.ErrClash},
		{[]string{"<+b>Two</b>", "<b>One. </+b>"}, "<+b>Two</b><b>One. </+b>", api.OK},
		{[]string{"<b>x</+b>", "<+b>y</b>", "<+b>z</b>"}, "", api.ErrClash},
	} {
		l, e := docs.Glue(readAll(t, x.parts...))
		if e != x.e || e != api.OK && l != nil || e == api.OK && written(t, l) != x.want {
			t.Errorf("Glue(%q): %v, error %d, want %q, error %d", x.parts, l, e, x.want, x.e)
		}
	}
}

func TestGlueErrors(t *testing.T) {
	for e, l := range crooked() {
		clash := pieces(open("b"), carried(shut("b")))
		if got, f := docs.Glue([][]api.Piece{clash, nil, l}); got != nil || f != e {
			t.Errorf("%v: %v, error %d, want %d", l, got, f, e)
		}
	}
	if _, e := docs.Glue([][]api.Piece{{open("b")}, {text("")}}); e != api.ErrScope {
		t.Errorf("the first part decides: error %d", e)
	}
	many := repeat(api.MaxPieces, gap("n"))
	if l, e := docs.Glue([][]api.Piece{many, {gap("n")}}); l != nil || e != api.ErrLimit {
		t.Errorf("too many pieces: %d, error %d", len(l), e)
	}
	if l, e := docs.Glue([][]api.Piece{many[:500], many[:12]}); len(l) != api.MaxPieces || e != api.OK {
		t.Errorf("as many pieces as there may be: %d, error %d", len(l), e)
	}
	joined := append(slices.Clone(many[1:]), text("a"))
	if l, e := docs.Glue([][]api.Piece{joined, {text("b")}, {text("c")}}); len(l) != api.MaxPieces || e != api.OK {
		t.Errorf("texts that are one: %d, error %d", len(l), e)
	}
	if l, e := docs.Glue([][]api.Piece{many, {gap("n"), carried(shut("b"))}}); l != nil || e != api.ErrScope {
		t.Errorf("pieces ahead of limit: error %d", e)
	}
	if l, e := docs.Glue([][]api.Piece{many, {gap("n"), open("b"), carried(shut("b"))}, nil}); l != nil || e != api.ErrClash {
		t.Errorf("clash ahead of limit: error %d", e)
	}
}

func TestSegments(t *testing.T) {
	d := parse(t, "h1 <b>One. Two</b>\nraw x. Y\np \nli <br/>\nli A. B. C\n")
	l, e := docs.Segments(d, rules())
	if e != api.OK {
		t.Fatal(e)
	}
	want := []struct {
		block int
		s     string
	}{{0, "<b>One. </+b>"}, {0, "<+b>Two</b>"}, {2, ""}, {3, "<br/>"}, {4, "A. "}, {4, "B. "}, {4, "C"}}
	if len(l) != len(want) {
		t.Fatal(l)
	}
	for i, x := range want {
		if l[i].Block != x.block || written(t, l[i].Pieces) != x.s {
			t.Errorf("segment %d: %v", i, l[i])
		}
	}
	for _, s := range []string{"", "raw x. Y\n"} {
		if l, e := docs.Segments(parse(t, s), rules()); len(l) != 0 || e != api.OK {
			t.Errorf("%q: %v, error %d", s, l, e)
		}
	}
}

func TestSegmentsErrors(t *testing.T) {
	bad := []api.Break{{Before: "%"}}
	for e, l := range crooked() {
		if got, f := docs.Segments(document(block(api.BlPara, l...)), bad); got != nil || f != e {
			t.Errorf("%v: %v, error %d, want %d", l, got, f, e)
		}
	}
	if got, e := docs.Segments(document(block(api.BlPara, carried(open("b")), shut("b"))), bad); got != nil || e != api.ErrState {
		t.Errorf("%v, error %d", got, e)
	}
	for _, s := range []string{"", "raw x\n", "p x\n"} {
		if got, e := docs.Segments(parse(t, s), bad); got != nil || e != api.ErrForm {
			t.Errorf("%q: %v, error %d", s, got, e)
		}
		if got, e := docs.Segments(parse(t, s), make([]api.Break, api.MaxBreaks+1)); got != nil || e != api.ErrLimit {
			t.Errorf("%q: %v, error %d", s, got, e)
		}
	}
}

// segments reads segments: the number of a block, and a written form.
func segments(t *testing.T, l ...any) []api.Segment {
	t.Helper()
	var out []api.Segment
	for i := 0; i < len(l); i += 2 {
		out = append(out, api.Segment{Block: l[i].(int), Pieces: read(t, l[i+1].(string))})
	}
	return out
}

func TestRestore(t *testing.T) {
	d := parse(t, "h1 One. Two\nraw x. Y\np \n")
	for _, x := range []struct {
		l    []api.Segment
		want string
		e    api.Errno
	}{
		{segments(t, 0, "One. ", 0, "<b>Deux</b>", 2, ""), "h1 One. <b>Deux</b>\nraw x. Y\np \n", api.OK},
		{segments(t, 0, "<b>A</+b>", 0, "<+b>B</+b>", 0, "<+b>C</b>", 2, "{n}"), "h1 <b>ABC</b>\nraw x. Y\np {n}\n", api.OK},
		{segments(t, 0, "", 2, "a", 2, "b"), "h1 \nraw x. Y\np ab\n", api.OK},

		{nil, "", api.ErrArg},
		{segments(t, 0, "a"), "", api.ErrArg},
		{segments(t, 2, "a"), "", api.ErrArg},
		{segments(t, 2, "a", 0, "b"), "", api.ErrArg},
		{segments(t, 0, "a", 2, "b", 0, "c"), "", api.ErrArg},
		{segments(t, 0, "a", 1, "b", 2, "c"), "", api.ErrArg},
		{segments(t, 0, "a", 2, "b", 3, "c"), "", api.ErrArg},
		{segments(t, -1, "x", 0, "a", 2, "b"), "", api.ErrArg},
		{segments(t, 0, "<b></+b>", 2, "b", 1<<62, "c"), "", api.ErrArg},

		{segments(t, 0, "Deux<b></+b>", 2, ""), "", api.ErrState},
		{segments(t, 0, "<+b></b>", 2, ""), "", api.ErrState},
		{segments(t, 0, "<b>x</+b>", 0, "y", 2, ""), "", api.ErrClash},
		{segments(t, 0, "<b></+b>", 2, "<b></+b>", 2, ""), "", api.ErrState},
		{segments(t, 0, "", 2, "<b></+b>", 2, ""), "", api.ErrClash},
	} {
		got, e := docs.Restore(d, x.l)
		if e != x.e || e != api.OK && got.Blocks != nil || e == api.OK && printed(t, got) != x.want {
			t.Errorf("Restore(%v): %v, error %d, want %q, error %d", x.l, got, e, x.want, x.e)
		}
	}
	if got, e := docs.Restore(document(), nil); e != api.OK || got.Blocks != nil {
		t.Errorf("no blocks: %v, error %d", got, e)
	}
	if got, e := docs.Restore(parse(t, "raw x\n"), nil); e != api.OK || printed(t, got) != "raw x\n" {
		t.Errorf("raw blocks: %v, error %d", got, e)
	}
}

func TestRestoreErrors(t *testing.T) {
	for e, l := range crooked() {
		if got, f := docs.Restore(document(block(api.BlPara, l...)), nil); got.Blocks != nil || f != e {
			t.Errorf("%v: %v, error %d, want %d", l, got, f, e)
		}
		if got, f := docs.Restore(parse(t, "p \n"), []api.Segment{{Pieces: pieces(open("b"), carried(shut("b")))}, {Pieces: l}}); got.Blocks != nil || f != e {
			t.Errorf("%v: %v, error %d, want %d", l, got, f, e)
		}
	}
	many := api.Segment{Pieces: repeat(300, gap("n"))}
	if got, e := docs.Restore(parse(t, "p \n"), []api.Segment{many, many}); got.Blocks != nil || e != api.ErrLimit {
		t.Errorf("too many pieces: error %d", e)
	}
}

// P0.6: tags stay balanced from the text of a document to that of its translation.
func TestTagsThroughAllSteps(t *testing.T) {
	d := parse(t, "p <b>One red <i>house. Two</i> dogs</b><br/> run.\nraw \\<b>\n")
	l, e := docs.Segments(d, rules())
	if e != api.OK || len(l) != 2 {
		t.Fatal(l, e)
	}
	if got, e := docs.Project(l[0].Pieces, fields("Roja casa la"), ties("20 10")); got != nil || e != api.ErrState {
		t.Errorf("something behind what is closed for now: %v, error %d", got, e)
	}
	for i, x := range []struct{ words, ties, want string }{
		{"Una casa roja .", "00 12 21 33", "<b>Una <i>casa roja.</+i></+b>"},
		{"Dos perros corren .", "00 11 22 33", "<+b><+i>Dos</i> perros</b> <br/>corren."},
	} {
		got, e := docs.Project(l[i].Pieces, fields(x.words), ties(x.ties))
		if e != api.OK || written(t, got) != x.want {
			t.Errorf("%v, error %d, want %q", got, e, x.want)
		}
		l[i].Pieces = got
	}
	got, e := docs.Restore(d, l)
	if want := "p <b>Una <i>casa roja.Dos</i> perros</b> <br/>corren.\nraw \\<b>\n"; e != api.OK || printed(t, got) != want {
		t.Errorf("%v, error %d", got, e)
	}
}

package docs_test

import (
	"slices"
	"strings"
	"testing"

	"truchman/api"
	"truchman/docs"
)

// Tests of P1.4 and P1.8: Project.

// projection is a source, words and ties, with what comes of them.
type projection struct{ source, words, ties, want string }

func (x projection) check(t *testing.T) {
	t.Helper()
	l, e := docs.Project(read(t, x.source), fields(x.words), ties(x.ties))
	if e != api.OK || written(t, l) != x.want {
		t.Errorf("Project(%q, %q, %q): %v, error %d, want %q", x.source, x.words, x.ties, l, e, x.want)
	}
}

func TestProjectSpans(t *testing.T) {
	for _, x := range []projection{
		{"<b>red</b> house", "casa roja", "01 10", "casa <b>roja</b>"},
		{"", "", "", ""},
		{"a", "x y", "", "x y"},
		{"<b></b>", "", "", "<b></b>"},
		{"<b><i></i>{n}</b>", "", "", "<b><i></i></b>"},
		{"a{n}b", "{n} x , y", "", "{n} x, y"},
		// full spans: from the least target to behind the greatest one
		{"<b>a</b>", "x y z", "02 00", "<b>x y z</b>"},
		{"<b>a b</b>", "x y z", "02 11", "x <b>y z</b>"},
		{"a <b>b <i>c</i></b> d", "x y z", "10 22", "<b>x y <i>z</i></b>"},
		{"<b>a<i>b</i>c</b>", "w x y z", "03 10 21", "<b><i>w</i> x y z</b>"},
		{"<b><i>a</i></b>", "x y", "01", "x <b><i>y</i></b>"},
		{"<b>{n}</b> a", "x {m} y", "01", "x <b>{m}</b> y"},
		{"<b>a.</b>", "x , y", "12", "x, <b>y</b>"},
		// the tags are not counted among the bare words
		{"<b>a</b><br/><i>b</i>", "x y", "00 11", "<b>x</b> <br/><i>y</i>"},
		// empty spans: behind what is tied from ahead of them
		{"<br/>a", "x y", "01", "<br/>x y"},
		{"a<br/>", "x y", "00", "x <br/>y"},
		{"a b<br/>", "x y", "01 10", "x y<br/>"},
		{"a<br/> b", "x y", "01 10", "x y<br/>"},
		{"a<br/> b", "x y", "11", "<br/>x y"},
		{"a <b>b</b> c", "x y z", "00 22", "x <b></b>y z"},
		{"a <b>b<br/></b>", "x y", "00", "x <b><br/></b>y"},
		// inside of the span of the element directly around them
		{"a <b>b<br/></b>", "x y z", "02 10", "<b>x <br/></b>y z"},
		{"<b>a<br/>b</b>", "x y z", "01 12", "x <b>y <br/>z</b>"},
		{"<b><br/>a</b>", "x y", "01", "x <b><br/>y</b>"},
		{"a <b><br/>b</b>", "x y z", "02 10", "<b>x <br/></b>y z"},
		{"a <b><br/>b</b>", "x y z", "00 12", "x y <b><br/>z</b>"},
		{"a <b>b</b><i><br/></i>", "x y z", "02 10 11", "<b>x y</b> z<i><br/></i>"},
	} {
		x.check(t)
	}
}

func TestProjectOrder(t *testing.T) {
	for _, x := range []projection{
		// moved out of the full span of a brother
		{"a<br/> <b>b c</b>", "x y z", "01 10 22", "<b>x y z</b><br/>"},
		{"a<br/> <b>b</b> c", "w x y z", "00 10 12 23", "<b>w x y</b> <br/>z"},
		{"a<i><u/></i> <b>b c</b> d", "w x y z", "01 10 22 33", "<b>w x y</b> <i><u/></i>z"},
		{"<b>a<br/> <i>b c</i></b>", "x y z", "01 10 22", "<b><i>x y z</i><br/></b>"},
		// not moved: at the beginning, or at the end
		{"<br/><b>a</b>", "x y", "00 01", "<br/><b>x y</b>"},
		{"<b>a</b><br/>", "x y", "00 01", "<b>x y</b><br/>"},
		{"a<br/><b>b</b>", "x y z", "02 10 11", "<b>x y</b> z<br/>"},
		{"a c<br/><b>b</b>", "x y z", "00 21 22", "x <br/><b>y z</b>"},
		// an empty span does not keep another one out
		{"a<br/><i></i><b></b>", "x y", "00", "x <br/><i></i><b></b>y"},
		// brothers at one place: what ends, what is empty, what begins
		{"<b>a</b><i>b</i>", "x y", "00 11", "<b>x</b> <i>y</i>"},
		{"<i>a</i><b>b</b>", "x y", "01 10", "<b>x</b> <i>y</i>"},
		{"<b>a</b><br/><u></u><i>b</i>", "x y", "00 11", "<b>x</b> <br/><u></u><i>y</i>"},
		{"<b>a</b><br/><i>b</i>", "x y", "01 10", "<i>x</i> <b>y</b><br/>"},
		{"a <b>b</b><br/><i>c</i><u/>", "x y z", "10 21", "<b>x</b> <br/><i>y</i> <u/>z"},
		{"<i>c</i><br/><b>a</b>", "x y", "", "<i></i><br/><b></b>x y"},
		{"<u/><b>a</b>", "x", "00", "<u/><b>x</b>"},
		// carried tags stay so
		{"<b>One. </+b>", "Uno .", "00 11", "<b>Uno.</+b>"},
		{"<+b>a</b> c", "x y", "00 11", "<+b>x</b> y"},
		{"<+b>a</b> c", "x y", "11", "<+b></b>x y"},
		{"<+b><+i>a</+i></+b>", "x y", "00 01", "<+b><+i>x y</+i></+b>"},
		{"<+b>a</b><i>c</+i>", "x y", "00 11", "<+b>x</b> <i>y</+i>"},
		{"a<b></+b>", "x", "00", "x<b></+b>"},
		// the spaced form
		{"a <b>b</b>!", "( x ) !", "11", "(<b>x</b>)!"},
	} {
		x.check(t)
	}
}

func TestProjectClash(t *testing.T) {
	for _, x := range []struct {
		source, words, ties string
		want                api.Errno
	}{
		{"<b>a</b> <i>b</i>", "x y z", "00 02 11", api.ErrClash},
		{"<b>a</b> <i>b</i>", "x y z", "00 01 11 12", api.ErrClash},
		{"<b>a</b> <i>b</i>", "x y z", "01 11", api.ErrClash},
		{"<b>a</b> <i>b</i>", "x y z", "00 01 12", api.OK},
		{"<u><b>a</b> <i>b</i></u>", "x y z", "00 02 11", api.ErrClash},
		{"<u><b>a</b></u> <u><i>b</i></u>", "x y z", "00 02 11", api.ErrClash},
		{"<b>a <i>b</i></b>", "x y z", "00 02 11", api.OK},
		{"<b>a</b> <u/> <i>b</i>", "x y z", "00 02 11", api.ErrClash},
		{"<b>a</b> c <i>b</i>", "x y z", "00 02 11", api.OK},
		// a clash is told ahead of carried tags out of place
		{"<+b>a</b> <i>b</i>", "w x y z", "01 03 12", api.ErrClash},
		{"<b>a</b> <i>b</+i>", "w x y z", "00 02 11", api.ErrClash},

		{"<+b>a</b> c", "x y", "01 10", api.ErrState},
		{"<+b>a</b>", "x y", "01", api.ErrState},
		{"<b>a</+b>", "x y", "00", api.ErrState},
		{"<b>a</+b>", "x y", "", api.ErrState},
		{"<b>a</+b>", "x y", "01", api.OK},
		{"<+b>a<i>b</+i></+b>", "x y z", "00 11 02", api.ErrState},
		{"<+b>a<i>b</+i></+b>", "x y z", "00 11 12", api.OK},
		{"<+b><+i>a</i>b</b>", "x y", "01 10", api.ErrState},
		{"<+b><+i>a</i>b</b>", "x y", "00 11", api.OK},
		{"<+b>a</b><br/>", "x y", "01", api.ErrState},
	} {
		l, e := docs.Project(read(t, x.source), fields(x.words), ties(x.ties))
		if e != x.want || e != api.OK && l != nil {
			t.Errorf("Project(%q, %q, %q): %v, error %d, want %d", x.source, x.words, x.ties, l, e, x.want)
		}
	}
}

func TestProjectErrors(t *testing.T) {
	tie := func(s, t int) []api.Tie { return []api.Tie{{Source: s, Target: t}} }
	many := func(n int) []api.Tie { return make([]api.Tie, n) }
	broken := pieces(open("b"))
	for name, x := range map[string]struct {
		l     []api.Piece
		words []string
		ties  []api.Tie
		want  api.Errno
	}{
		"no word":                    {broken, []string{"a b"}, tie(-1, -1), api.ErrForm},
		"too many words":             {broken, slices.Repeat([]string{"a"}, 513), nil, api.ErrLimit},
		"a tag not closed":           {broken, []string{"<b>"}, nil, api.ErrScope},
		"no word behind a tag":       {broken, []string{"<br/>", "a b"}, nil, api.ErrForm},
		"a tag":                      {broken, []string{"a", "<br/>"}, nil, api.ErrArg},
		"tags that are closed":       {broken, []string{"<b>", "a", "</b>"}, nil, api.ErrArg},
		"carried tags":               {broken, []string{"<+b>", "</+b>"}, nil, api.ErrArg},
		"a broken source":            {broken, []string{"a"}, many(2049), api.ErrScope},
		"a source of too many words": {pieces(text(strings.Repeat(".", 513))), []string{"a"}, tie(-1, 0), api.ErrLimit},
		"too many ties":              {read(t, "a"), []string{"a"}, append(many(2048), tie(-1, -1)...), api.ErrLimit},
		"most ties":                  {read(t, "a"), []string{"a"}, many(2048), api.OK},
		"source below":               {read(t, "a"), []string{"a"}, tie(-1, 0), api.ErrArg},
		"source above":               {read(t, "a<br/>"), []string{"a"}, tie(1, 0), api.ErrArg},
		"no source":                  {read(t, "<br/>"), []string{"a"}, tie(0, 0), api.ErrArg},
		"source far above":           {read(t, "a"), []string{"a"}, tie(1<<62, 0), api.ErrArg},
		"target below":               {read(t, "a"), []string{"a"}, tie(0, -1), api.ErrArg},
		"target above":               {read(t, "a"), []string{"a"}, tie(0, 1), api.ErrArg},
		"no target":                  {read(t, "a"), nil, tie(0, 0), api.ErrArg},
		"a later tie":                {read(t, "<b>a</b><i>b</i>"), []string{"a"}, append(many(1), api.Tie{Source: 1}, api.Tie{Source: 2}), api.ErrArg},
		"no tag, a mark":             {read(t, "a"), []string{"<", "{n}"}, nil, api.OK},
	} {
		l, e := docs.Project(x.l, x.words, x.ties)
		if e != x.want || e != api.OK && l != nil {
			t.Errorf("%s: %v, error %d, want %d", name, l, e, x.want)
		}
	}
	for e, l := range crooked() {
		if got, f := docs.Project(l, nil, nil); got != nil || f != e {
			t.Errorf("%v: %v, error %d, want %d", l, got, f, e)
		}
	}
}

func TestProjectLimits(t *testing.T) {
	row := func(w string, n int) []string { return slices.Repeat([]string{w}, n) }
	for name, x := range map[string]struct {
		source string
		words  []string
		ties   []api.Tie
		want   api.Errno
	}{
		"most words and tags":     {"<br/><br/>", row("a", 510), nil, api.OK},
		"too many words and tags": {"<b></b><br/>", row("a", 510), nil, api.ErrLimit},
		"most words":              {"", row("a", 512), nil, api.OK},
		"most tags":               {strings.Repeat("<br/>", 512), nil, nil, api.OK},
		"a tag too many":          {strings.Repeat("<br/>", 512), row("a", 1), nil, api.ErrLimit},
		"most pieces":             {"<br/>", row("{n}", 256), nil, api.OK},
		"too many pieces":         {"<b></b>", row("{n}", 256), nil, api.ErrLimit},
		"state ahead of limit":    {"<b></+b>", row("a", 512), nil, api.ErrState},
		"clash ahead of limit":    {"<b>a</b><i>b</i>", row("a", 512), []api.Tie{{}, {Source: 1}}, api.ErrClash},
	} {
		l, e := docs.Project(read(t, x.source), x.words, x.ties)
		if e != x.want || e != api.OK && l != nil {
			t.Errorf("%s: %d pieces, error %d, want %d", name, len(l), e, x.want)
		}
	}
}

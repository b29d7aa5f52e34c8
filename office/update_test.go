package office_test

import (
	"fmt"
	"slices"
	"strings"
	"testing"

	"truchman/api"
	"truchman/office"
)

// Tests of P9.2 and P9.5: Touched and updates.

func TestTouched(t *testing.T) {
	for _, x := range []struct {
		old, text string
		from      []int
		kept      string
	}{
		{"p One. Two\n", "p One. Two\n", []int{0, 1}, "++"},
		{"p One. Two\n", "p One. Three\n", []int{0, 1}, "+-"},
		{"p One. Two\n", "p Two\n", []int{1}, "+"},
		{"p One. Two\n", "p Zero. One. Two\n", []int{-1, 0, 1}, "-++"},
		{"p One. Two\n", "", nil, ""},
		{"", "p One. Two\n", []int{-1, -1}, "--"},
		{"", "", nil, ""},
		// The same forms in other blocks, of other kinds, and with other raw blocks between.
		{"p One. Two\n", "h1 One. \nraw One. Two\nli Two\nraw x\n", []int{0, 1}, "++"},
		{"raw a. b\np One\n", "p One\nraw c. d\n", []int{0}, "+"},
		// Tags and holes belong to a form.
		{"p <b>One. Two</b>\n", "p <b>One. </b>Two\n", []int{0, 1}, "--"},
		{"p <b>One. Two</b>\n", "p <b>One. Two. Three</b>\n", []int{0, 1, -1}, "+--"},
		{"p {n}\n", "p \\{n}\n", []int{0}, "-"},
		{"p a\\\\b\n", "p a\\\\b\np a\\<b\n", []int{0, -1}, "+-"},
		{"p \n", "p \nh1 \n", []int{0, -1}, "+-"},
		// Equal forms change places: the row of steps that is least.
		{"p A\np B\np A\n", "p B\np A\n", []int{1, 2}, "++"},
		{"p A\np B\n", "p B\np A\n", []int{0, 1}, "--"},
		{"p A\np A\np B\n", "p A\np B\np A\n", []int{0, 1, 2}, "+--"},
		{"p A\np B\np A\np C\n", "p C\np A\np B\np A\n", []int{-1, 0, 1, 2}, "-+++"},
		{"p A\np A\n", "p A\n", []int{0}, "+"},
	} {
		o := made(x.old)
		before := copied(o)
		from, kept, e := office.Touched(o, x.text)
		if e != api.OK || !slices.Equal(from, x.from) || marks(kept) != x.kept || !same(o, before) {
			t.Errorf("Touched(%q, %q): %v %s, error %d, want %v %s", x.old, x.text, from, marks(kept), e, x.from, x.kept)
		}
	}
}

func marks(l []bool) string {
	out := ""
	for _, x := range l {
		if x {
			out += "+"
		} else {
			out += "-"
		}
	}
	return out
}

func TestTouchedErrors(t *testing.T) {
	bad := made("p One\n")
	bad.Cells = nil
	last := made("p One\n")
	last.Version = api.MaxVersion
	many := strings.Repeat("p x\n", api.MaxSegments)
	for _, x := range []struct {
		o    api.Office
		text string
		e    api.Errno
	}{
		{bad, "p", api.ErrArg},
		{bad, "p x\n", api.ErrArg},
		{last, "p", api.ErrForm},
		{last, "p <b>\n", api.ErrScope},
		{last, strings.Repeat("p\n", api.MaxText), api.ErrLimit},
		{last, strings.Repeat("raw \n", api.MaxBlocks+1), api.ErrLimit},
		{last, many + "p x\n", api.ErrLimit},
	} {
		if from, kept, e := office.Touched(x.o, x.text); e != x.e || from != nil || kept != nil {
			t.Errorf("%.20q: %v %v, error %d, want %d", x.text, from, kept, e, x.e)
		}
	}
	// Touched counts no version.
	if from, _, e := office.Touched(last, many); e != api.OK || len(from) != api.MaxSegments || from[1] != -1 {
		t.Errorf("%v, error %d", from, e)
	}
}

// after returns an office with these cells of de, and this shelf, after an update.
func after(t *testing.T, old string, cells []api.Cell, l []api.Shelved, text string) api.Office {
	t.Helper()
	o := made(old)
	o.Version = 4
	o.Cells[0] = cells
	o.Shelf = l
	valid(t, o)
	before := copied(o)
	out, e := office.Apply(o, source(text))
	if e != api.OK {
		t.Fatalf("%q: error %d", text, e)
	}
	valid(t, out)
	equal(t, "argument", o, before)
	if out.Version != 5 || !sameDocument(out.Source, document(text)) || !slices.Equal(out.Langs, o.Langs) || !slices.Equal(out.People, o.People) || !slices.Equal(out.Rules, o.Rules) {
		t.Errorf("%q: %+v", text, out)
	}
	return out
}

func TestUpdate(t *testing.T) {
	full := by("ann", with(done, "x|ann+", "y|cy"))
	for _, x := range []struct {
		name   string
		old    string
		cells  []api.Cell
		shelf  []api.Shelved
		text   string
		want   []api.Cell
		onward []api.Shelved
	}{
		{
			name: "kept cells stay as they are",
			old:  "p A\np B\np C\np D\np E\np F\n", cells: []api.Cell{full, stale(done), by("cy", refused), by("bob", with(empty, "x|a")), empty, drafted},
			text: "p Z\np A\np B\np C\nraw A\np D\np E\np F\n", want: []api.Cell{empty, full, stale(done), by("cy", refused), by("bob", with(empty, "x|a")), empty, drafted},
		},
		{
			name: "kept cells stay as they are, whatever is on the shelf",
			old:  "p A\np B\n", cells: []api.Cell{drafted, empty}, shelf: []api.Shelved{shelved("de", "A", "a", "x", "y", 0), shelved("de", "B", "b", "x", "y", 0)},
			text: "p A\np B\n", want: []api.Cell{drafted, empty}, onward: []api.Shelved{shelved("de", "A", "a", "x", "y", 0), shelved("de", "B", "b", "x", "y", 0)},
		},
		{
			name: "a draft that is touched",
			old:  "p A\n", cells: []api.Cell{by("ann", with(drafted, "x|ann+"))},
			text: "p B\n", want: []api.Cell{with(stale(drafted), "x|ann+")},
		},
		{
			name: "a rejected cell that is touched",
			old:  "p A\n", cells: []api.Cell{refused},
			text: "p B\n", want: []api.Cell{stale(refused)},
		},
		{
			name: "an approved cell that is touched",
			old:  "p A\n", cells: []api.Cell{full},
			text: "p B\n", want: []api.Cell{with(stale(done), "x|ann+", "y|cy")}, onward: []api.Shelved{shelved("de", "A", "Eins. ", "ann", "bob", 3)},
		},
		{
			name: "a stale cell that is touched does not go to the shelf",
			old:  "p A\n", cells: []api.Cell{by("ann", stale(done))},
			text: "p B\n", want: []api.Cell{stale(done)},
		},
		{
			name: "empty cells that are touched have no Others and no lock",
			old:  "p A\np B\n", cells: []api.Cell{with(empty, "x|ann"), by("bob", empty)},
			text: "p C\np D\n", want: []api.Cell{empty, empty},
		},
		{
			name: "segments that are dropped",
			old:  "p A\np B\np C\np D\n", cells: []api.Cell{full, drafted, stale(done), refused},
			text: "raw x\n", onward: []api.Shelved{shelved("de", "A", "Eins. ", "ann", "bob", 3)},
		},
		{
			name: "from the shelf",
			old:  "p A\np A2\n", cells: []api.Cell{with(refused, "x|ann"), empty}, shelf: []api.Shelved{shelved("de", "B", "b", "x", "y", 0), shelved("de", "D", "", "x", "y", 4)},
			text: "p B\np D\np B\n", want: []api.Cell{approved("b", "x", "y", 0), approved("", "x", "y", 4), approved("b", "x", "y", 0)},
			onward: []api.Shelved{shelved("de", "B", "b", "x", "y", 0), shelved("de", "D", "", "x", "y", 4)},
		},
		{
			name: "the first one of the shelf, of this language",
			old:  "p A\n", cells: []api.Cell{drafted},
			shelf: []api.Shelved{shelved("de", "A", "a", "x", "y", 0), shelved("de", "B", "b", "x", "z", 2), shelved("de", "B", "b", "y", "a", 1), shelved("de", "B", "c", "a", "b", 0), shelved("fr", "B", "a", "x", "y", 0)},
			text:  "p B\n", want: []api.Cell{approved("b", "x", "z", 2)},
			onward: []api.Shelved{shelved("de", "A", "a", "x", "y", 0), shelved("de", "B", "b", "x", "z", 2), shelved("de", "B", "b", "y", "a", 1), shelved("de", "B", "c", "a", "b", 0), shelved("fr", "B", "a", "x", "y", 0)},
		},
		{
			name: "what is on the shelf already is there once",
			old:  "p A\np A\np B\n", cells: []api.Cell{done, done, approved("b", "ann", "bob", 0)}, shelf: []api.Shelved{shelved("de", "A", "Eins. ", "ann", "bob", 2), shelved("de", "A", "Eins. ", "ann", "bob", 3)},
			text: "p C\n", want: []api.Cell{stale(done)},
			onward: []api.Shelved{shelved("de", "A", "Eins. ", "ann", "bob", 2), shelved("de", "A", "Eins. ", "ann", "bob", 3), shelved("de", "B", "b", "ann", "bob", 0)},
		},
		{
			name: "cells that change places find their texts on the shelf",
			old:  "p A\np B\n", cells: []api.Cell{full, approved("b", "cy", "bob", 1)},
			text: "p B\np A\n", want: []api.Cell{approved("b", "cy", "bob", 1), done},
			onward: []api.Shelved{shelved("de", "A", "Eins. ", "ann", "bob", 3), shelved("de", "B", "b", "cy", "bob", 1)},
		},
		{
			name: "drafts do not",
			old:  "p A\np B\n", cells: []api.Cell{full, drafted},
			text: "p B\np A\n", want: []api.Cell{with(stale(done), "x|ann+", "y|cy"), done},
			onward: []api.Shelved{shelved("de", "A", "Eins. ", "ann", "bob", 3)},
		},
		{
			name: "equal forms that change places",
			old:  "p A\np A\np B\n", cells: []api.Cell{approved("1", "ann", "bob", 0), approved("2", "ann", "bob", 0), approved("3", "ann", "bob", 0)},
			text: "p A\np B\np A\n", want: []api.Cell{approved("1", "ann", "bob", 0), approved("3", "ann", "bob", 0), approved("2", "ann", "bob", 0)},
			onward: []api.Shelved{shelved("de", "A", "2", "ann", "bob", 0), shelved("de", "B", "3", "ann", "bob", 0)},
		},
		{
			name: "a stale cell may have other tags",
			old:  "p <b>A. B</b>\n", cells: []api.Cell{approved("<b>x</+b>", "ann", "bob", 0), empty},
			text: "p A. B\n", want: []api.Cell{stale(approved("<b>x</+b>", "ann", "bob", 0)), empty},
			onward: []api.Shelved{shelved("de", "<b>A. </+b>", "<b>x</+b>", "ann", "bob", 0)},
		},
		{
			name: "forms are written",
			old:  "p a\\\\\\<\\{b}<i>{n}</i><br/>c\n", cells: []api.Cell{approved("<i></i><br/>", "ann", "bob", 0)},
			text: "p x\n", want: []api.Cell{stale(approved("<i></i><br/>", "ann", "bob", 0))},
			onward: []api.Shelved{shelved("de", "a\\\\\\<\\{b}<i>{n}</i><br/>c", "<i></i><br/>", "ann", "bob", 0)},
		},
		{
			name: "empty forms",
			old:  "p \np A\n", cells: []api.Cell{approved("", "ann", "bob", 0), approved("a", "ann", "bob", 0)},
			text: "p A\np \n", want: []api.Cell{approved("a", "ann", "bob", 0), approved("", "ann", "bob", 0)},
			onward: []api.Shelved{shelved("de", "", "", "ann", "bob", 0), shelved("de", "A", "a", "ann", "bob", 0)},
		},
	} {
		t.Run(x.name, func(t *testing.T) {
			out := after(t, x.old, x.cells, x.shelf, x.text)
			if !sameRow(out.Cells[0], x.want) {
				t.Errorf("cells:\n got %+v\nwant %+v", out.Cells[0], x.want)
			}
			if !slices.Equal(out.Shelf, x.onward) {
				t.Errorf("shelf:\n got %+v\nwant %+v", out.Shelf, x.onward)
			}
			if len(out.Cells[1]) != len(x.want) {
				t.Errorf("fr: %+v", out.Cells[1])
			}
		})
	}
}

// Each language is updated by itself, and all with the same steps.
func TestUpdateLanguages(t *testing.T) {
	o := made("p A\np B\n")
	for i := range 6 {
		o = ran(o, language(fmt.Sprint("l", i)))
	}
	for i := range o.Langs {
		o.Cells[i] = []api.Cell{approved(fmt.Sprint(i), "ann", "bob", 0), stale(draft(fmt.Sprint("x", i), "ann", 0))}
		o.Shelf = append(o.Shelf, shelved(o.Langs[i], "D", fmt.Sprint("d", i), "x", "y", 0))
	}
	out := ran(o, source("p C\np D\n"))
	want := copied(o)
	want.Version, want.Source, want.Shelf = 1, document("p C\np D\n"), nil
	for i, lang := range o.Langs {
		want.Cells[i] = []api.Cell{stale(approved(fmt.Sprint(i), "ann", "bob", 0)), approved(fmt.Sprint("d", i), "x", "y", 0)}
		want.Shelf = append(want.Shelf, shelved(lang, "A", fmt.Sprint(i), "ann", "bob", 0), shelved(lang, "D", fmt.Sprint("d", i), "x", "y", 0))
	}
	equal(t, "all languages", out, want)
	none := api.Office{Source: document("p A\n")}
	out = ran(none, source("p B\n"))
	equal(t, "no language", out, api.Office{Version: 1, Source: document("p B\n")})
}

func TestSourceErrors(t *testing.T) {
	o := made("p One\n")
	last := copied(o)
	last.Version = api.MaxVersion
	many := paragraphs(api.MaxSegments)
	for _, x := range []struct {
		o    api.Office
		text string
		e    api.Errno
	}{
		{last, "p", api.ErrForm},
		{last, "p </b>\n", api.ErrScope},
		{last, "raw {n}\n", api.ErrArg},
		{last, "p <+b>x</b>\n", api.ErrState},
		{last, "p x\n", api.ErrLimit},
		{last, "p One\n", api.ErrLimit},
		{o, "p " + strings.Repeat("x", api.MaxText) + "\n", api.ErrLimit},
		{o, many + "p x\n", api.ErrLimit},
		{o, "p " + strings.Repeat("x. ", api.MaxSegments) + "x\n", api.ErrLimit},
	} {
		apply(t, x.o, source(x.text), x.o, x.e)
	}
	ran(o, source(many))
	last.Version--
	if out := ran(last, source("p x\n")); out.Version != api.MaxVersion {
		t.Errorf("version %d", out.Version)
	}
}

func TestShelfLimits(t *testing.T) {
	o := made("p A\np B\n")
	o.Cells[0] = []api.Cell{done, approved("x0000", "ann", "bob", 0)}
	o.Cells[0][0].Since = 0
	o.Shelf = shelf("de", "B", api.MaxShelf)
	valid(t, o)
	// B's text stands on the shelf already; A's would be one too many, unless A is kept.
	apply(t, o, source("p B\n"), o, api.ErrLimit)
	apply(t, o, source("p C\np D\n"), o, api.ErrLimit)
	out := ran(o, source("p A\n"))
	if len(out.Shelf) != api.MaxShelf {
		t.Errorf("%d texts", len(out.Shelf))
	}
	o.Shelf = o.Shelf[:api.MaxShelf-1]
	out = ran(o, source("p C\np D\n"))
	if len(out.Shelf) != api.MaxShelf {
		t.Errorf("%d texts", len(out.Shelf))
	}
	// An event that is refused does nothing, also in a run.
	o.Shelf = shelf("de", "B", api.MaxShelf)
	out, at, e := office.Run(o, []api.Event{lock("ann", "fr", 0), source("p B\n")})
	if e != api.ErrLimit || at != 1 {
		t.Errorf("%d, error %d", at, e)
	}
	equal(t, "ahead of the limit", out, ran(o, lock("ann", "fr", 0)))
}

// A segment that is too long to be written has a form all the same, but the shelf does not take it.
func TestLongForms(t *testing.T) {
	long := func(kind api.BlockKind, first string) api.Block {
		return api.Block{Kind: kind, Pieces: []api.Piece{{Kind: api.PiText, Text: first + strings.Repeat("x", api.MaxText)}}}
	}
	o := made("p A\np B\np C\n")
	o.Source.Blocks[0], o.Source.Blocks[2] = long(api.BlPara, "a"), long(api.BlPara, "c")
	o.Cells[0] = []api.Cell{draft("1", "ann", 0), approved("2", "ann", "bob", 0), empty}
	valid(t, o)
	from, kept, e := office.Touched(o, "p D\np B\np \n")
	if e != api.OK || !slices.Equal(from, []int{0, 1, 2}) || marks(kept) != "-+-" {
		t.Errorf("%v %v, error %d", from, kept, e)
	}
	out := ran(o, source("p D\np B\np \n"))
	if want := []api.Cell{stale(draft("1", "ann", 0)), approved("2", "ann", "bob", 0), empty}; !sameRow(out.Cells[0], want) {
		t.Errorf("%+v", out.Cells[0])
	}
	o.Cells[0][0] = approved("1", "ann", "bob", 0)
	apply(t, o, source("p B\n"), o, api.ErrLimit)
	// A form that is just not too long.
	fits := made("p A\n")
	fits.Source.Blocks[0].Pieces[0].Text = strings.Repeat("x", api.MaxText)
	fits.Cells[0][0] = approved("1", "ann", "bob", 0)
	out = ran(fits, source("p B\n"))
	if len(out.Shelf) != 1 || len(out.Shelf[0].Source) != api.MaxText {
		t.Error("a form that fits the shelf is not there")
	}
	valid(t, out)
	// Merging changes sources without writing them.
	other := copied(o)
	other.Source.Blocks[2] = long(api.BlPara, "d")
	out, _, e = office.Merge(o, other, o)
	if e != api.OK || !sameDocument(out.Source, other.Source) || !sameRow(out.Cells[0], o.Cells[0]) {
		t.Errorf("error %d", e)
	}
	other.Source.Blocks[0] = long(api.BlH1, "e")
	if _, _, e = office.Merge(o, other, o); e != api.ErrLimit {
		t.Errorf("a long form on the shelf: error %d", e)
	}
}

func TestThereAndBack(t *testing.T) {
	o := made("p One. Two. Three\nli Four\n")
	o = ran(o, slices.Concat(accepted("de", 0, "Eins. "), accepted("fr", 1, "Deux. "), accepted("de", 3, "Vier"), wrote("ann", "de", 1, "Zwei. "))...)
	back := ran(o, source("p Four. Three. One. Zero\nraw x\nli Two\n"), source("p One. Two. Three\nli Four\n"))
	for i, row := range o.Cells {
		for j, c := range row {
			if isDone(c) {
				isCell(t, fmt.Sprint(o.Langs[i], j), back.Cells[i][j], c)
			}
		}
	}
	if isDone(back.Cells[0][1]) {
		t.Errorf("a draft is approved: %+v", back.Cells[0][1])
	}
	// Where another text was on the shelf for the form, it may be that one.
	o.Shelf = []api.Shelved{shelved("de", "One. ", "Ein", "ann", "cy", 0)}
	back = ran(o, source("p Two\n"), source("p One. Two. Three\nli Four\n"))
	isCell(t, "another text", back.Cells[0][0], approved("Ein", "ann", "cy", 0))
}

// The examples of the chapter.
func TestExamples(t *testing.T) {
	o, e := office.New("p One. Two\n", []api.Break{{Before: ".%s", Break: true}})
	if e != api.OK {
		t.Fatal(e)
	}
	o = ran(o, language("de"), person("ann", "de", api.RoTranslator), person("bob", "de", api.RoReviewer))
	o = ran(o, lock("ann", "de", 0), edit("ann", "de", 0, "Eins. "), free("ann", "de", 0), approve("bob", "de", 0))
	isCell(t, "approved", o.Cells[0][0], approved("Eins. ", "ann", "bob", 0))
	if _, e := office.Apply(o, approve("ann", "de", 1)); e != api.ErrScope {
		t.Errorf("error %d", e)
	}
	o = ran(o, source("p One. Three\n"))
	isCell(t, "as it was", o.Cells[0][0], approved("Eins. ", "ann", "bob", 0))
	isCell(t, "empty", o.Cells[0][1], api.Cell{})
	o = ran(o, source("p Three\n"), source("p One. Three\n"))
	isCell(t, "from the shelf", o.Cells[0][0], approved("Eins. ", "ann", "bob", 0))
}

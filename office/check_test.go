package office_test

import (
	"fmt"
	"strings"
	"testing"

	"truchman/api"
	"truchman/office"
)

// Tests of P9.1: Check.

// rich is an office of the version 5 with something of each kind. Its segments are "<b>One. </+b>", "<+b>Two</b>" and "{n}".
func rich() api.Office {
	return api.Office{
		Version: 5,
		Source:  document("p <b>One. Two</b>\nraw x. y\nli {n}\n"),
		Rules:   stops(),
		Langs:   []string{"de", "fr"},
		People: []api.Person{
			{Lang: "de", Name: "ann", Role: api.RoTranslator}, {Lang: "de", Name: "ann", Role: api.RoReviewer},
			{Lang: "de", Name: "bob", Role: api.RoReviewer}, {Lang: "fr", Name: "cy", Role: api.RoTranslator},
		},
		Cells: [][]api.Cell{
			{
				with(locked(approved("<b>Eins. </+b>", "ann", "bob", 5), "bob"), "<b>Eins. </+b>|bob", "Eins|ann", "Eins|cy+"),
				with(rejected("<+b>Zwei</b>", "gone", "bob", 0), "|ann", "|bob+", "x|ann"),
				stale(approved("other tags<x/>", "ann", "bob", 2)),
			},
			{
				with(locked(api.Cell{}, "cy"), "<x/>|a", "x|ann"),
				stale(draft("", "dan", 3)),
				draft("{n}{n}", "cy", 4),
			},
		},
		Shelf: []api.Shelved{
			shelved("de", "<b>x</b>", "<b>y</b>", "ann", "bob", 5), shelved("de", "<b>x</b>", "<b>y</b>", "ann", "cy", 0),
			shelved("fr", "", "", "ann", "bob", 1),
		},
	}
}

func TestCheckAccepts(t *testing.T) {
	valid(t, rich())
	valid(t, api.Office{})
	valid(t, api.Office{Version: api.MaxVersion, Rules: stops()})
	valid(t, api.Office{Langs: []string{"a"}, Cells: make([][]api.Cell, 1)})
	valid(t, api.Office{Source: document("raw x\n"), Langs: []string{"a", "b-9"}, Cells: [][]api.Cell{nil, {}}})
	valid(t, made("p One. Two\n"))
}

// A fault makes an office have an error.
type fault struct {
	name string
	e    api.Errno
	make func(o *api.Office)
}

// faults are those of Check, in its order. Of cells they are those of the first one, which is approved.
func faults() []fault {
	of := func(name string, e api.Errno, make func(o *api.Office)) fault { return fault{name, e, make} }
	cell := func(name string, e api.Errno, make func(c *api.Cell)) fault {
		return of("cell: "+name, e, func(o *api.Office) { make(&o.Cells[0][0]) })
	}
	other := func(name string, e api.Errno, make func(x *api.Other)) fault {
		return cell("other: "+name, e, func(c *api.Cell) { make(&c.Others[0]) })
	}
	book := func(name string, e api.Errno, make func(x *api.Shelved)) fault {
		return of("shelf: "+name, e, func(o *api.Office) { make(&o.Shelf[0]) })
	}
	return []fault{
		of("version", api.ErrArg, func(o *api.Office) { o.Version = -1 }),
		of("block", api.ErrArg, func(o *api.Office) { o.Source.Blocks[0].Kind = api.BlNone }),
		of("piece", api.ErrScope, func(o *api.Office) { o.Source.Blocks[0].Pieces = []api.Piece{{Kind: api.PiOpen, Text: "b"}} }),
		of("rule", api.ErrForm, func(o *api.Office) { o.Rules[0].After = "%" }),
		of("many segments", api.ErrLimit, func(o *api.Office) { o.Source = document(paragraphs(api.MaxSegments + 1)) }),
		of("many languages", api.ErrLimit, func(o *api.Office) { o.Langs = strings.Fields("A b c d e f g h i") }),
		of("language's name", api.ErrName, func(o *api.Office) { o.Langs[0] = "De" }),
		of("language twice", api.ErrTwice, func(o *api.Office) { o.Langs[1] = "de" }),
		of("many people", api.ErrLimit, func(o *api.Office) { o.People = make([]api.Person, api.MaxPeople+1) }),
		of("person's language", api.ErrNone, func(o *api.Office) { o.People[0].Lang = "en" }),
		of("person's name", api.ErrName, func(o *api.Office) { o.People[0].Name = "" }),
		of("person's role", api.ErrArg, func(o *api.Office) { o.People[0].Role = api.RoNone }),
		of("person twice", api.ErrTwice, func(o *api.Office) { o.People[1] = o.People[0] }),
		of("rows", api.ErrArg, func(o *api.Office) { o.Cells = o.Cells[:1] }),
		of("row", api.ErrArg, func(o *api.Office) { o.Cells[0] = append(o.Cells[0], api.Cell{}) }),
		cell("state", api.ErrArg, func(c *api.Cell) { c.State = api.CeApproved + 1 }),
		cell("empty", api.ErrArg, func(c *api.Cell) { c.State = api.CeEmpty }),
		cell("text", api.ErrForm, func(c *api.Cell) { c.Text = "<b>Eins. " }),
		cell("author", api.ErrName, func(c *api.Cell) { c.Author = "Ann" }),
		cell("since", api.ErrArg, func(c *api.Cell) { c.Since = 6 }),
		cell("reviewer", api.ErrName, func(c *api.Cell) { c.Reviewer = "" }),
		cell("reviewer is author", api.ErrClash, func(c *api.Cell) { c.Reviewer = c.Author }),
		cell("tags", api.ErrClash, func(c *api.Cell) { c.Text = "<b>Eins. </b>" }),
		cell("lock", api.ErrScope, func(c *api.Cell) { c.Lock = "cy" }),
		cell("many others", api.ErrLimit, func(c *api.Cell) { *c = with(*c, append(many(api.MaxOthers), "<|A")...) }),
		other("text", api.ErrForm, func(x *api.Other) { x.Text = "<" }),
		other("author", api.ErrName, func(x *api.Other) { x.Author = "9" }),
		cell("other twice", api.ErrTwice, func(c *api.Cell) { c.Others[1] = c.Others[0] }),
		of("second cell", api.ErrForm, func(o *api.Office) { o.Cells[0][1].Text = "<" }),
		of("second language", api.ErrArg, func(o *api.Office) { o.Cells[1][0].Since = 1 }),
		of("long shelf", api.ErrLimit, func(o *api.Office) { o.Shelf = make([]api.Shelved, api.MaxShelf+1) }),
		book("language", api.ErrNone, func(x *api.Shelved) { x.Lang = "en" }),
		book("source", api.ErrForm, func(x *api.Shelved) { x.Source = "<b>" }),
		book("text", api.ErrForm, func(x *api.Shelved) { x.Text = "\n" }),
		book("author", api.ErrName, func(x *api.Shelved) { x.Author = "" }),
		book("reviewer", api.ErrName, func(x *api.Shelved) { x.Reviewer = "-" }),
		book("reviewer is author", api.ErrClash, func(x *api.Shelved) { x.Reviewer = x.Author }),
		book("tags", api.ErrClash, func(x *api.Shelved) { x.Text = "<b>y</b><b></b>" }),
		book("since", api.ErrArg, func(x *api.Shelved) { x.Since = -1 }),
		of("shelf: twice", api.ErrTwice, func(o *api.Office) { o.Shelf[1] = o.Shelf[0] }),
		of("shelf: second text", api.ErrForm, func(o *api.Office) { o.Shelf[2].Text = "{" }),
	}
}

func TestCheckErrors(t *testing.T) {
	l := faults()
	for i, first := range l {
		o := rich()
		first.make(&o)
		if e := office.Check(o); e != first.e {
			t.Errorf("%s: error %d, want %d", first.name, e, first.e)
		}
		for _, second := range l[i+1:] {
			o := rich()
			second.make(&o)
			first.make(&o)
			if e := office.Check(o); e != first.e {
				t.Errorf("%s, and %s: error %d, want %d", first.name, second.name, e, first.e)
			}
		}
	}
}

func TestCheckOne(t *testing.T) {
	for i, x := range []struct {
		e    api.Errno
		make func(o *api.Office)
	}{
		{api.ErrArg, func(o *api.Office) { o.Version = api.MaxVersion + 1 }},
		{api.ErrArg, func(o *api.Office) { o.Version = -1 << 63 }},
		{api.ErrState, func(o *api.Office) {
			o.Source.Blocks[0].Pieces = []api.Piece{{Kind: api.PiOpen, Text: "b", Carried: true}, {Kind: api.PiClose, Text: "b"}}
		}},
		{api.ErrLimit, func(o *api.Office) { o.Rules = make([]api.Break, api.MaxBreaks+1) }},
		{api.ErrArg, func(o *api.Office) { o.Rules = nil }},
		{api.ErrName, func(o *api.Office) { o.Langs[0] = "" }},
		{api.ErrName, func(o *api.Office) { o.Langs[0] = "d e" }},
		{api.ErrName, func(o *api.Office) { o.Langs[0] = strings.Repeat("d", api.MaxTagName+1) }},
		{api.ErrTwice, func(o *api.Office) { o.Langs[1] = "d" }},
		{api.ErrNone, func(o *api.Office) { o.People[3].Lang = "" }},
		{api.ErrArg, func(o *api.Office) { o.People[3].Role = api.RoReviewer + 1 }},
		{api.ErrTwice, func(o *api.Office) { o.People[2].Name = "a" }},
		{api.ErrTwice, func(o *api.Office) { o.People[0].Role = api.RoReviewer }},
		{api.ErrTwice, func(o *api.Office) { o.People[2].Lang, o.People[3].Lang = "fr", "de" }},
		{api.ErrArg, func(o *api.Office) { o.Cells = nil }},
		{api.ErrArg, func(o *api.Office) { o.Cells = append(o.Cells, nil) }},
		{api.ErrArg, func(o *api.Office) { o.Cells[1] = o.Cells[1][:2] }},
		{api.ErrArg, func(o *api.Office) { o.Cells[1][0].Text = " " }},
		{api.ErrArg, func(o *api.Office) { o.Cells[1][0].Author = "ann" }},
		{api.ErrArg, func(o *api.Office) { o.Cells[1][0].Reviewer = "ann" }},
		{api.ErrArg, func(o *api.Office) { o.Cells[1][0].Stale = true }},
		{api.ErrForm, func(o *api.Office) { o.Cells[0][2].Text = strings.Repeat("x", api.MaxText+1) }},
		{api.ErrForm, func(o *api.Office) { o.Cells[0][2].Text = strings.Repeat("<b/>", api.MaxPieces+1) }},
		{api.ErrForm, func(o *api.Office) { o.Cells[0][2].Text = "x<+b>y</b>" }},
		{api.ErrName, func(o *api.Office) { o.Cells[0][2].Author = "" }},
		{api.ErrArg, func(o *api.Office) { o.Cells[0][2].Since = -1 }},
		{api.ErrName, func(o *api.Office) { o.Cells[0][1].Reviewer = "" }},
		{api.ErrName, func(o *api.Office) { o.Cells[1][2].Reviewer = "bob" }},
		{api.ErrClash, func(o *api.Office) { o.Cells[0][2].Reviewer = "ann" }},
		{api.ErrClash, func(o *api.Office) { o.Cells[0][2].Stale = false }},
		{api.ErrClash, func(o *api.Office) { o.Cells[0][1].Text = "<+b>Zwei</b><b/>" }},
		{api.ErrClash, func(o *api.Office) { o.Cells[0][1].Text = "<b>Zwei</b>" }},
		{api.ErrClash, func(o *api.Office) { o.Cells[1][2].Text = "<n/>" }},
		{api.ErrScope, func(o *api.Office) { o.Cells[1][0].Lock = "ann" }},
		{api.ErrScope, func(o *api.Office) { o.Cells[0][1].Lock = "gone" }},
		{api.ErrLimit, func(o *api.Office) { o.Cells[1][0] = with(o.Cells[1][0], many(api.MaxOthers+1)...) }},
		{api.ErrTwice, func(o *api.Office) { o.Cells[0][0].Others[0].Author = "ann" }},
		{api.ErrTwice, func(o *api.Office) { o.Cells[0][2] = with(o.Cells[0][2], "other tags<x/>|ann+") }},
		{api.ErrTwice, func(o *api.Office) { o.Cells[1][1] = with(o.Cells[1][1], "|dan") }},
		{api.ErrTwice, func(o *api.Office) { o.Cells[0][1] = with(o.Cells[0][1], "|bob", "|ann") }},
		{api.ErrTwice, func(o *api.Office) { o.Cells[0][1] = with(o.Cells[0][1], "|bob", "|bob+") }},
		{api.ErrTwice, func(o *api.Office) { o.Cells[0][1] = with(o.Cells[0][1], "b|ann", "a|bob") }},
		{api.ErrForm, func(o *api.Office) { o.Shelf[0].Text = strings.Repeat("x", api.MaxText+1) }},
		{api.ErrForm, func(o *api.Office) { o.Shelf[0].Source = strings.Repeat("x", api.MaxText+1) }},
		{api.ErrClash, func(o *api.Office) { o.Shelf[2].Text = "<b/>" }},
		{api.ErrClash, func(o *api.Office) { o.Shelf[2].Source = "<b/>" }},
		{api.ErrArg, func(o *api.Office) { o.Shelf[2].Since = 6 }},
		{api.ErrTwice, func(o *api.Office) { o.Shelf[0], o.Shelf[1] = o.Shelf[1], o.Shelf[0] }},
		{api.ErrTwice, func(o *api.Office) { o.Shelf[0].Lang, o.Shelf[1].Lang, o.Shelf[2].Lang = "fr", "fr", "de" }},
		{api.ErrTwice, func(o *api.Office) { o.Shelf[0].Source = "<b>y</b>" }},
		{api.ErrTwice, func(o *api.Office) { o.Shelf[0].Text = "<b>z</b>" }},
		{api.ErrTwice, func(o *api.Office) { o.Shelf[0].Author = "bo" }},
		{api.ErrTwice, func(o *api.Office) { o.Shelf[0].Reviewer, o.Shelf[0].Since = "cy", 1 }},
	} {
		o := rich()
		x.make(&o)
		if e := office.Check(o); e != x.e {
			t.Errorf("%d: error %d, want %d", i, e, x.e)
		}
	}
	// What comes first decides whether one stands behind another one.
	for i, make := range []func(o *api.Office){
		func(o *api.Office) { o.People[2].Name, o.Cells[0][0].Lock = "zoe", "zoe" },
		func(o *api.Office) { o.People[0].Name = "an" },
		func(o *api.Office) { o.People[2].Role, o.People[1].Role, o.People[0].Name = 1, 2, "aa" },
		func(o *api.Office) { o.Shelf[0].Author, o.Shelf[1].Author = "an", "ann" },
		func(o *api.Office) { o.Shelf[0].Reviewer, o.Shelf[0].Since, o.Shelf[1].Since = "cy", 0, 1 },
		func(o *api.Office) { o.Shelf[0].Source, o.Shelf[0].Since = "<b></b>", 5 },
		func(o *api.Office) { o.Cells[0][1] = with(o.Cells[0][1], "a|bob", "b|ann") },
		func(o *api.Office) { o.Cells[0][1] = with(o.Cells[0][1], "<+b>Zwei</b>|ann", "<+b>Zwei</b>|hal") },
		func(o *api.Office) { o.Cells[0][1].Lock = "ann" },
		func(o *api.Office) { o.Cells[1][2].Since = 5 },
	} {
		o := rich()
		make(&o)
		if e := office.Check(o); e != api.OK {
			t.Errorf("accepted %d: error %d", i, e)
		}
	}
}

func TestCheckLimits(t *testing.T) {
	// full has n of everything that is counted, above its limit or just at it.
	o := api.Office{Version: api.MaxVersion, Source: document(paragraphs(api.MaxSegments))}
	for i := range api.MaxLangs {
		lang := string(rune('a' + i))
		o.Langs = append(o.Langs, lang)
		for j := range api.MaxPeople / api.MaxLangs {
			o.People = append(o.People, api.Person{Lang: lang, Name: string(rune('a' + j)), Role: api.RoReviewer})
		}
		row := make([]api.Cell, api.MaxSegments)
		for j := range row {
			row[j] = with(draft("x", "ann", api.MaxVersion), many(api.MaxOthers)...)
		}
		o.Cells = append(o.Cells, row)
	}
	o.Shelf = shelf("a", "x", api.MaxShelf)
	valid(t, o)
	more := copied(o)
	more.People = append(more.People, api.Person{Lang: "h", Name: "z", Role: api.RoReviewer})
	if e := office.Check(more); e != api.ErrLimit {
		t.Errorf("people: error %d", e)
	}
	more = copied(o)
	more.Langs, more.Cells = append(more.Langs, "i"), append(more.Cells, more.Cells[0])
	if e := office.Check(more); e != api.ErrLimit {
		t.Errorf("languages: error %d", e)
	}
	more = copied(o)
	more.Cells[7][127] = with(more.Cells[7][127], many(api.MaxOthers+1)...)
	if e := office.Check(more); e != api.ErrLimit {
		t.Errorf("others: error %d", e)
	}
	more = copied(o)
	more.Shelf = shelf("a", "x", api.MaxShelf+1)
	if e := office.Check(more); e != api.ErrLimit {
		t.Errorf("shelf: error %d", e)
	}
	more = copied(o)
	more.Source = document(paragraphs(api.MaxSegments + 1))
	if e := office.Check(more); e != api.ErrLimit {
		t.Errorf("segments: error %d", e)
	}
}

// A source may have segments that are too long to be written.
func TestCheckLong(t *testing.T) {
	long := api.Office{Source: api.Document{Blocks: []api.Block{{Kind: api.BlPara, Pieces: []api.Piece{{Kind: api.PiText, Text: strings.Repeat("x", api.MaxText+1)}}}}}}
	valid(t, long)
	if !office.Same(long, copied(long)) {
		t.Error("a long office is not the same as its copy")
	}
}

func TestSame(t *testing.T) {
	changes := map[string]func(o *api.Office){
		"version":     func(o *api.Office) { o.Version++ },
		"block":       func(o *api.Office) { o.Source.Blocks[0].Kind = api.BlH1 },
		"piece":       func(o *api.Office) { o.Source.Blocks[0].Pieces[1].Text = "two" },
		"rule":        func(o *api.Office) { o.Rules[0].Break = false },
		"rules":       func(o *api.Office) { o.Rules = append(o.Rules, api.Break{}) },
		"language":    func(o *api.Office) { o.Langs[1] = "en" },
		"person":      func(o *api.Office) { o.People[3].Role = api.RoReviewer },
		"rows":        func(o *api.Office) { o.Cells = o.Cells[:1] },
		"row":         func(o *api.Office) { o.Cells[1] = o.Cells[1][:2] },
		"state":       func(o *api.Office) { o.Cells[0][0].State = api.CeRejected },
		"other state": func(o *api.Office) { o.Cells[0][0].State = 200 },
		"stale":       func(o *api.Office) { o.Cells[0][0].Stale = true },
		"draft stale": func(o *api.Office) { o.Cells[1][2].Stale = true },
		"text":        func(o *api.Office) { o.Cells[0][0].Text += "!" },
		"author":      func(o *api.Office) { o.Cells[0][0].Author = "an" },
		"reviewer":    func(o *api.Office) { o.Cells[0][0].Reviewer = "bo" },
		"since":       func(o *api.Office) { o.Cells[0][0].Since-- },
		"lock":        func(o *api.Office) { o.Cells[0][0].Lock = "" },
		"others":      func(o *api.Office) { o.Cells[0][0].Others = nil },
		"other":       func(o *api.Office) { o.Cells[0][0].Others[0].Approved = true },
		"shelf":       func(o *api.Office) { o.Shelf[2].Since++ },
		"short shelf": func(o *api.Office) { o.Shelf = o.Shelf[:2] },
	}
	if !office.Same(rich(), rich()) || !office.Same(api.Office{}, api.Office{}) {
		t.Error("equal offices are not the same")
	}
	for name, change := range changes {
		o := rich()
		change(&o)
		if office.Same(rich(), o) || office.Same(o, rich()) {
			t.Errorf("%s: the same", name)
		}
		if !office.Same(o, copied(o)) {
			t.Errorf("%s: not the same as its copy", name)
		}
	}
	lists := api.Office{
		Source: api.Document{Blocks: []api.Block{}}, Rules: []api.Break{}, Langs: []string{}, People: []api.Person{},
		Cells: [][]api.Cell{}, Shelf: []api.Shelved{},
	}
	if !office.Same(lists, api.Office{}) {
		t.Error("nil and empty lists differ")
	}
	if !office.Same(api.Office{Cells: [][]api.Cell{nil, {{}}}}, api.Office{Cells: [][]api.Cell{{}, {{Others: []api.Other{}}}}}) {
		t.Error("nil and empty lists of cells differ")
	}
	if office.Same(api.Office{Cells: [][]api.Cell{nil}}, api.Office{}) {
		t.Error("a list of cells is not counted")
	}
}

func TestNew(t *testing.T) {
	text := "h1 One. Two\nraw a. b\np \n"
	o, e := office.New(text, stops())
	if e != api.OK {
		t.Fatal(e)
	}
	equal(t, text, o, api.Office{Source: document(text), Rules: stops()})
	o, e = office.New("", nil)
	if e != api.OK || !same(o, api.Office{}) {
		t.Errorf("empty: %+v, error %d", o, e)
	}
	if _, e := office.New(paragraphs(api.MaxSegments), nil); e != api.OK {
		t.Errorf("%d segments: error %d", api.MaxSegments, e)
	}
	bad := []api.Break{{Before: "%"}}
	for _, x := range []struct {
		text  string
		rules []api.Break
		e     api.Errno
	}{
		{strings.Repeat("p\n", api.MaxText), bad, api.ErrLimit},
		{"p One", bad, api.ErrForm},
		{"p <b>\n", bad, api.ErrScope},
		{"p <+b>x</b>\n", bad, api.ErrState},
		{"raw <b/>\n", bad, api.ErrArg},
		{"p One\n", bad, api.ErrForm},
		{paragraphs(api.MaxSegments + 1), bad, api.ErrForm},
		{"p One\n", make([]api.Break, api.MaxBreaks+1), api.ErrLimit},
		{paragraphs(api.MaxSegments + 1), nil, api.ErrLimit},
		{"p " + strings.Repeat("x. ", api.MaxSegments) + "x\n", stops(), api.ErrLimit},
	} {
		if o, e := office.New(x.text, x.rules); e != x.e || !same(o, api.Office{}) {
			t.Errorf("New(%.30q, %.60s): %+v, error %d, want %d", x.text, fmt.Sprint(x.rules), o, e, x.e)
		}
	}
}

func TestProgress(t *testing.T) {
	o := rich()
	for lang, want := range map[string][5]int{"de": {0, 0, 1, 2, 1}, "fr": {1, 2, 0, 0, 1}} {
		empty, draft, rejected, approved, stale, e := office.Progress(o, lang)
		if got := [5]int{empty, draft, rejected, approved, stale}; e != api.OK || got != want {
			t.Errorf("%s: %v, error %d, want %v", lang, got, e, want)
		}
	}
	bad := rich()
	bad.Version = -1
	for _, x := range []struct {
		o    api.Office
		lang string
		e    api.Errno
	}{{bad, "en", api.ErrArg}, {bad, "de", api.ErrArg}, {o, "en", api.ErrNone}, {o, "", api.ErrNone}, {api.Office{}, "", api.ErrNone}} {
		a, b, c, d, f, e := office.Progress(x.o, x.lang)
		if e != x.e || a != 0 || b != 0 || c != 0 || d != 0 || f != 0 {
			t.Errorf("%q: %d %d %d %d %d, error %d, want %d", x.lang, a, b, c, d, f, e, x.e)
		}
	}
}

func TestOutput(t *testing.T) {
	o := made("h1 One. <b>Two. Three</b>\nraw One. Two\np \nli {n}\n")
	// Its segments: "One. ", "<b>Two. </+b>", "<+b>Three</b>", "", "{n}".
	o.Version = 1
	o.Cells[0] = []api.Cell{
		approved("Eins. ", "ann", "bob", 0), rejected("<b>Zwei. </+b>", "ann", "bob", 0), approved("<+b>Drei</b>", "ann", "bob", 1),
		approved("Neu", "ann", "bob", 0), draft("{n}", "ann", 0),
	}
	o.Cells[1] = []api.Cell{{}, {}, {}, {}, stale(approved("{m}", "ann", "bob", 0))}
	for lang, want := range map[string]string{
		"de": "h1 Eins. <b>Two. Drei</b>\nraw One. Two\np Neu\nli {n}\n",
		"fr": "h1 One. <b>Two. Three</b>\nraw One. Two\np \nli {n}\n",
	} {
		d, e := office.Output(o, lang)
		if e != api.OK || !sameDocument(d, document(want)) {
			t.Errorf("%s: %+v, error %d", lang, d, e)
		}
	}
}

func sameDocument(a, b api.Document) bool {
	return same(api.Office{Source: a}, api.Office{Source: b})
}

func TestOutputErrors(t *testing.T) {
	o := made("p <i><b>One. Two</b></i>\n")
	bad := copied(o)
	bad.Cells[0][0].State = 9
	// The tags are those of the segment, each as often, but closed in another order.
	crossed := copied(o)
	crossed.Cells[0][0] = approved("<b><i>Eins. </+i></+b>", "ann", "bob", 0)
	// They are closed for now in another order on both sides, so that what comes of them fits, but nests as nowhere.
	both := copied(crossed)
	both.Cells[0][1] = approved("<+b><+i>Zwei</i></b>", "ann", "bob", 0)
	if d, e := office.Output(both, "de"); e != api.OK || !sameDocument(d, document("p <b><i>Eins. Zwei</i></b>\n")) {
		t.Errorf("%+v, error %d", d, e)
	}
	for _, x := range []struct {
		o    api.Office
		lang string
		e    api.Errno
	}{{bad, "en", api.ErrArg}, {bad, "de", api.ErrArg}, {o, "en", api.ErrNone}, {crossed, "en", api.ErrNone}, {crossed, "de", api.ErrClash}} {
		if d, e := office.Output(x.o, x.lang); e != x.e || len(d.Blocks) > 0 {
			t.Errorf("%q: %+v, error %d, want %d", x.lang, d, e, x.e)
		}
	}
}

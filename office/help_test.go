package office_test

import (
	"fmt"
	"math/rand/v2"
	"slices"
	"strings"
	"testing"

	"truchman/api"
	"truchman/docs"
	"truchman/office"
)

func dice() *rand.Rand { return rand.New(rand.NewPCG(9, 10)) }

func pick[T any](r *rand.Rand, l ...T) T { return l[r.IntN(len(l))] }

// stops are rules that break behind a full stop and a blank.
func stops() []api.Break { return []api.Break{{Before: ".%s", Break: true}} }

func document(text string) api.Document {
	d, line, e := docs.Parse(text)
	if e != api.OK {
		panic(fmt.Sprint(text, ": line ", line, ", error ", e))
	}
	return d
}

// made returns an office of a document, with the languages de and fr: ann translates, bob reviews, cy does both.
func made(text string) api.Office {
	o, e := office.New(text, stops())
	if e != api.OK {
		panic(fmt.Sprint(text, ": error ", e))
	}
	for _, lang := range []string{"de", "fr"} {
		o = ran(o, language(lang),
			person("ann", lang, api.RoTranslator), person("bob", lang, api.RoReviewer),
			person("cy", lang, api.RoTranslator), person("cy", lang, api.RoReviewer))
	}
	return o
}

// ran returns an office after events that have no error.
func ran(o api.Office, l ...api.Event) api.Office {
	out, at, e := office.Run(o, l)
	if e != api.OK {
		panic(fmt.Sprintf("event %d, %+v: error %d", at, l[at], e))
	}
	return out
}

// Makers of events.

func source(text string) api.Event { return api.Event{Kind: api.EvSource, Text: text} }

func language(lang string) api.Event { return api.Event{Kind: api.EvLanguage, Lang: lang} }

func person(who, lang string, role api.Role) api.Event {
	return api.Event{Kind: api.EvPerson, Who: who, Lang: lang, Role: role}
}

func on(kind api.EventKind, who, lang string, segment int) api.Event {
	return api.Event{Kind: kind, Who: who, Lang: lang, Segment: segment}
}

func lock(who, lang string, segment int) api.Event { return on(api.EvLock, who, lang, segment) }

func free(who, lang string, segment int) api.Event { return on(api.EvFree, who, lang, segment) }

func approve(who, lang string, segment int) api.Event { return on(api.EvApprove, who, lang, segment) }

func reject(who, lang string, segment int) api.Event { return on(api.EvReject, who, lang, segment) }

func reopen(who, lang string, segment int) api.Event { return on(api.EvReopen, who, lang, segment) }

func edit(who, lang string, segment int, text string) api.Event {
	x := on(api.EvEdit, who, lang, segment)
	x.Text = text
	return x
}

func take(who, lang string, segment, number int) api.Event {
	x := on(api.EvPick, who, lang, segment)
	x.Number = number
	return x
}

// wrote are the events by which somebody writes a text.
func wrote(who, lang string, segment int, text string) []api.Event {
	return []api.Event{lock(who, lang, segment), edit(who, lang, segment, text), free(who, lang, segment)}
}

// accepted are the events by which ann writes a text and bob approves it.
func accepted(lang string, segment int, text string) []api.Event {
	return append(wrote("ann", lang, segment, text), approve("bob", lang, segment))
}

// Makers of cells.

func draft(text, author string, since int) api.Cell {
	return api.Cell{State: api.CeDraft, Text: text, Author: author, Since: since}
}

func rejected(text, author, reviewer string, since int) api.Cell {
	return api.Cell{State: api.CeRejected, Text: text, Author: author, Reviewer: reviewer, Since: since}
}

func approved(text, author, reviewer string, since int) api.Cell {
	return api.Cell{State: api.CeApproved, Text: text, Author: author, Reviewer: reviewer, Since: since}
}

func stale(c api.Cell) api.Cell { c.Stale = true; return c }

func locked(c api.Cell, who string) api.Cell { c.Lock = who; return c }

// with adds other texts, by "TEXT|AUTHOR"; a + behind stands for an approved one.
func with(c api.Cell, l ...string) api.Cell {
	c.Others = nil
	for _, s := range l {
		s, approved := strings.CutSuffix(s, "+")
		text, author, _ := strings.Cut(s, "|")
		c.Others = append(c.Others, api.Other{Text: text, Author: author, Approved: approved})
	}
	return c
}

// many are n different other texts of a cell, with names in ascending order.
func many(n int) []string {
	var out []string
	for i := range n {
		out = append(out, fmt.Sprintf("x%03d|zoe", i))
	}
	return out
}

func shelved(lang, source, text, author, reviewer string, since int) api.Shelved {
	return api.Shelved{Lang: lang, Source: source, Text: text, Author: author, Reviewer: reviewer, Since: since}
}

// shelf is n different texts for a form.
func shelf(lang, form string, n int) []api.Shelved {
	var out []api.Shelved
	for i := range n {
		out = append(out, shelved(lang, form, fmt.Sprintf("x%04d", i), "ann", "bob", 0))
	}
	return out
}

// paragraphs is the text of a document with n segments that differ.
func paragraphs(n int) string {
	var out strings.Builder
	for i := range n {
		fmt.Fprintf(&out, "p %d\n", i)
	}
	return out.String()
}

// Equality, apart from that of package office. A nil list and an empty one are the same.

func same(a, b api.Office) bool {
	return a.Version == b.Version && docs.Same(a.Source, b.Source) && slices.Equal(a.Rules, b.Rules) &&
		slices.Equal(a.Langs, b.Langs) && slices.Equal(a.People, b.People) && slices.EqualFunc(a.Cells, b.Cells, sameRow) &&
		slices.Equal(a.Shelf, b.Shelf)
}

func sameRow(a, b []api.Cell) bool { return slices.EqualFunc(a, b, sameCell) }

func sameCell(a, b api.Cell) bool {
	return textOf(a) == textOf(b) && a.Lock == b.Lock && slices.Equal(a.Others, b.Others)
}

// words is the text of a cell: all of it but Lock and Others.
type words struct {
	state                  api.CellState
	stale                  bool
	text, author, reviewer string
	since                  int
}

func textOf(c api.Cell) words {
	return words{c.State, c.Stale, c.Text, c.Author, c.Reviewer, c.Since}
}

func isDone(c api.Cell) bool { return c.State == api.CeApproved && !c.Stale }

// copied is a copy that has no memory in common with an office.
func copied(o api.Office) api.Office {
	blocks := slices.Clone(o.Source.Blocks)
	for i := range blocks {
		blocks[i].Pieces = slices.Clone(blocks[i].Pieces)
	}
	o.Source.Blocks = blocks
	o.Rules, o.Langs, o.People, o.Shelf = slices.Clone(o.Rules), slices.Clone(o.Langs), slices.Clone(o.People), slices.Clone(o.Shelf)
	rows := slices.Clone(o.Cells)
	for i := range rows {
		rows[i] = slices.Clone(rows[i])
		for j := range rows[i] {
			rows[i][j].Others = slices.Clone(rows[i][j].Others)
		}
	}
	o.Cells = rows
	return o
}

// spoil changes all of an office where it stands, so that nothing with memory in common stays as it was.
func spoil(o api.Office) {
	for _, b := range o.Source.Blocks {
		clear(b.Pieces)
	}
	clear(o.Source.Blocks)
	clear(o.Rules)
	clear(o.Langs)
	clear(o.People)
	for _, row := range o.Cells {
		for _, c := range row {
			clear(c.Others)
		}
		clear(row)
	}
	clear(o.Cells)
	clear(o.Shelf)
}

// valid holds that an office has no error.
func valid(t *testing.T, o api.Office) {
	t.Helper()
	if e := office.Check(o); e != api.OK {
		t.Fatalf("%+v: error %d", o, e)
	}
}

// equal holds an office against what it must be.
func equal(t *testing.T, what string, got, want api.Office) {
	t.Helper()
	if !same(got, want) {
		t.Errorf("%s:\n got %+v\nwant %+v", what, got, want)
	}
}

// isCell holds a cell against what it must be.
func isCell(t *testing.T, what string, got, want api.Cell) {
	t.Helper()
	if !sameCell(got, want) {
		t.Errorf("%s:\n got %+v\nwant %+v", what, got, want)
	}
}

package office_test

import (
	"slices"
	"strings"
	"testing"

	"truchman/api"
	"truchman/office"
)

// Tests of P9.1 and P9.4: Apply, but for updates, and Run.

// two is an office of the version 7 with the segments "One. " and "<b>Two</b>".
func two() api.Office {
	o := made("p One. <b>Two</b>\n")
	o.Version = 7
	return o
}

// apply holds what comes of an event against the office that it must be, or the error.
func apply(t *testing.T, o api.Office, x api.Event, want api.Office, e api.Errno) {
	t.Helper()
	before := copied(o)
	out, got := office.Apply(o, x)
	if e != api.OK {
		want = api.Office{}
	}
	if got != e || !same(out, want) {
		t.Errorf("%+v:\n got %+v, error %d\nwant %+v, error %d", x, out, got, want, e)
	}
	if got == api.OK {
		valid(t, out)
	}
	if office.Check(o) == api.OK {
		runs(t, o, x, want, e)
	}
	if !same(o, before) {
		t.Errorf("%+v changed its argument", x)
	}
}

// runs holds the same of a run. If an event is refused, the office is what it was.
func runs(t *testing.T, o api.Office, x api.Event, want api.Office, e api.Errno) {
	t.Helper()
	done := 1
	if e != api.OK {
		want, done = o, 0
	}
	if out, at, got := office.Run(o, []api.Event{x}); got != e || at != done || !same(out, want) {
		t.Errorf("run of %+v:\n got %+v, %d, error %d\nwant %+v, %d, error %d", x, out, at, got, want, done, e)
	}
}

// move is an event on the cell 0, or 1, of de: what was there, and what is there then, or the error.
type move struct {
	name   string
	before api.Cell
	x      api.Event
	after  api.Cell
	e      api.Errno
}

func tryMoves(t *testing.T, l []move) {
	t.Helper()
	for _, m := range l {
		t.Run(m.name, func(t *testing.T) {
			o, want := two(), two()
			at := 0
			if m.x.Segment == 1 {
				at = 1
			}
			o.Cells[0][at], want.Cells[0][at] = m.before, m.after
			apply(t, o, m.x, want, m.e)
		})
	}
}

// Cells of the segment 0. ann and cy translate, bob and cy review.
var (
	empty    = api.Cell{}
	drafted  = draft("Eins. ", "ann", 3)
	refused  = rejected("Eins. ", "ann", "bob", 3)
	done     = approved("Eins. ", "ann", "bob", 3)
	by       = func(who string, c api.Cell) api.Cell { return locked(c, who) }
	asBefore = api.Cell{}
)

func TestLock(t *testing.T) {
	tryMoves(t, []move{
		{"empty", empty, lock("ann", "de", 0), by("ann", empty), api.OK},
		{"by a reviewer", drafted, lock("bob", "de", 0), by("bob", drafted), api.OK},
		{"approved", done, lock("ann", "de", 0), by("ann", done), api.OK},
		{"stale", stale(done), lock("cy", "de", 0), by("cy", stale(done)), api.OK},
		{"others stay", with(empty, "x|a", "y|a+"), lock("cy", "de", 0), by("cy", with(empty, "x|a", "y|a+")), api.OK},
		{"no language", empty, lock("ann", "en", 0), asBefore, api.ErrNone},
		{"no language, no role", empty, lock("dan", "", 0), asBefore, api.ErrNone},
		{"no segment", empty, lock("ann", "de", 2), asBefore, api.ErrNone},
		{"no segment, no role", empty, lock("dan", "de", -1), asBefore, api.ErrNone},
		{"far segment", empty, lock("ann", "de", -1<<63), asBefore, api.ErrNone},
		{"no role", empty, lock("dan", "de", 0), asBefore, api.ErrScope},
		{"nobody", empty, lock("", "de", 0), asBefore, api.ErrScope},
		{"no role, locked", by("ann", empty), lock("dan", "de", 0), asBefore, api.ErrScope},
		{"locked by somebody else", by("ann", empty), lock("cy", "de", 0), asBefore, api.ErrState},
		{"locked", by("ann", empty), lock("ann", "de", 0), asBefore, api.ErrTwice},
	})
	o := two()
	o.People = slices.DeleteFunc(o.People, func(p api.Person) bool { return p.Lang == "fr" })
	apply(t, o, lock("ann", "fr", 0), o, api.ErrScope)
}

func TestFree(t *testing.T) {
	tryMoves(t, []move{
		{"empty", by("ann", empty), free("ann", "de", 0), empty, api.OK},
		{"with all", by("bob", with(stale(done), "x|a")), free("bob", "de", 0), with(stale(done), "x|a"), api.OK},
		{"no language", empty, free("ann", "x", 0), asBefore, api.ErrNone},
		{"no segment", empty, free("ann", "de", 2), asBefore, api.ErrNone},
		{"not locked", empty, free("ann", "de", 0), asBefore, api.ErrState},
		{"not locked by nobody", empty, free("", "de", 0), asBefore, api.ErrState},
		{"locked by somebody else", by("ann", empty), free("cy", "de", 0), asBefore, api.ErrState},
		{"locked, and freed by nobody", by("ann", empty), free("", "de", 0), asBefore, api.ErrState},
	})
}

func TestEdit(t *testing.T) {
	neu := by("ann", draft("Neu", "ann", 7))
	tagged := draft("<b>Zwei</b>", "cy", 2)
	full := many(api.MaxOthers)
	tryMoves(t, []move{
		{"first text", by("ann", empty), edit("ann", "de", 0, "Neu"), neu, api.OK},
		{"no words", by("ann", empty), edit("ann", "de", 0, ""), by("ann", draft("", "ann", 7)), api.OK},
		{"holes are no tags", by("ann", empty), edit("ann", "de", 0, "{n}"), by("ann", draft("{n}", "ann", 7)), api.OK},
		{"next text", by("ann", drafted), edit("ann", "de", 0, "Neu"), with(neu, "Eins. |ann"), api.OK},
		{"of somebody else", by("ann", draft("x", "cy", 1)), edit("ann", "de", 0, "Neu"), with(neu, "x|cy"), api.OK},
		{"no words go", by("ann", draft("", "cy", 1)), edit("ann", "de", 0, "Neu"), with(neu, "|cy"), api.OK},
		{"rejected", by("ann", refused), edit("ann", "de", 0, "Neu"), with(neu, "Eins. |ann"), api.OK},
		{"rejected, the same", by("ann", refused), edit("ann", "de", 0, "Eins. "), by("ann", draft("Eins. ", "ann", 7)), api.OK},
		{"stale draft", by("ann", stale(drafted)), edit("ann", "de", 0, "Neu"), with(neu, "Eins. |ann"), api.OK},
		{"stale, the same", by("ann", stale(drafted)), edit("ann", "de", 0, "Eins. "), by("ann", draft("Eins. ", "ann", 7)), api.OK},
		{"stale, approved", by("ann", stale(done)), edit("ann", "de", 0, "Neu"), with(neu, "Eins. |ann+"), api.OK},
		{"stale, approved, the same", by("ann", stale(done)), edit("ann", "de", 0, "Eins. "), by("ann", draft("Eins. ", "ann", 7)), api.OK},
		{"same text of somebody else", by("ann", draft("Neu", "cy", 1)), edit("ann", "de", 0, "Neu"), with(neu, "Neu|cy"), api.OK},
		{"in its place", by("ann", with(drafted, "A|ann", "Z|ann+")), edit("ann", "de", 0, "Neu"), with(neu, "A|ann", "Eins. |ann", "Z|ann+"), api.OK},
		{"an Other", by("ann", with(drafted, "Neu|ann+", "Neu|cy")), edit("ann", "de", 0, "Neu"), with(neu, "Eins. |ann", "Neu|cy"), api.OK},
		{"an Other of an empty cell", by("ann", with(empty, "Neu|ann", "Neu|cy")), edit("ann", "de", 0, "Neu"), with(neu, "Neu|cy"), api.OK},
		{"empty with others", by("ann", with(empty, full...)), edit("ann", "de", 0, "Neu"), with(neu, full...), api.OK},
		{"as many as may be", by("ann", with(drafted, full[1:]...)), edit("ann", "de", 0, "Neu"), with(neu, append([]string{"Eins. |ann"}, full[1:]...)...), api.OK},
		{"too many", by("ann", with(drafted, full...)), edit("ann", "de", 0, "Neu"), asBefore, api.ErrLimit},
		{"full, the same", by("ann", with(drafted, full...)), edit("ann", "de", 0, "Eins. "), by("ann", with(draft("Eins. ", "ann", 7), full...)), api.OK},
		{"full, an Other", by("ann", with(drafted, append(full[1:], "y|ann")...)), edit("ann", "de", 0, "y"),
			by("ann", with(draft("y", "ann", 7), append([]string{"Eins. |ann"}, full[1:]...)...)), api.OK},
		{"tags", by("cy", empty), edit("cy", "de", 1, "a<b>b</b>c"), by("cy", draft("a<b>b</b>c", "cy", 7)), api.OK},
		{"tags again", by("cy", tagged), edit("cy", "de", 1, "<b></b>"), by("cy", with(draft("<b></b>", "cy", 7), "<b>Zwei</b>|cy")), api.OK},

		{"no language", by("ann", empty), edit("ann", "en", 0, "Neu"), asBefore, api.ErrNone},
		{"no segment", by("ann", empty), edit("dan", "de", 2, "<"), asBefore, api.ErrNone},
		{"no translator", by("bob", empty), edit("bob", "de", 0, "Neu"), asBefore, api.ErrScope},
		{"nobody", empty, edit("", "de", 0, "Neu"), asBefore, api.ErrScope},
		{"no translator, not locked", empty, edit("bob", "de", 0, "<"), asBefore, api.ErrScope},
		{"not locked", empty, edit("ann", "de", 0, "Neu"), asBefore, api.ErrState},
		{"locked by somebody else", by("cy", empty), edit("ann", "de", 0, "Neu"), asBefore, api.ErrState},
		{"not locked, no form", empty, edit("ann", "de", 0, "<"), asBefore, api.ErrState},
		{"approved", by("ann", done), edit("ann", "de", 0, "Neu"), asBefore, api.ErrState},
		{"approved, no form", by("ann", done), edit("ann", "de", 0, "<"), asBefore, api.ErrState},
		{"no form", by("ann", empty), edit("ann", "de", 0, "<"), asBefore, api.ErrForm},
		{"too long", by("ann", empty), edit("ann", "de", 0, strings.Repeat("x", api.MaxText+1)), asBefore, api.ErrLimit},
		{"not closed", by("ann", empty), edit("ann", "de", 0, "<b>"), asBefore, api.ErrScope},
		{"carried late", by("ann", empty), edit("ann", "de", 0, "x<+b></b>"), asBefore, api.ErrState},
		{"more tags", by("ann", empty), edit("ann", "de", 0, "<b/>"), asBefore, api.ErrClash},
		{"no tags", by("ann", empty), edit("ann", "de", 1, "Zwei"), asBefore, api.ErrClash},
		{"no tags any more", by("cy", tagged), edit("cy", "de", 1, "Zwei"), asBefore, api.ErrClash},
		{"tags twice", by("cy", tagged), edit("cy", "de", 1, "<b>Z</b><b></b>"), asBefore, api.ErrClash},
		{"other tags", by("cy", tagged), edit("cy", "de", 1, "<i>Z</i>"), asBefore, api.ErrClash},
		{"carried tags", by("cy", tagged), edit("cy", "de", 1, "<b>Z</+b>"), asBefore, api.ErrClash},
		{"too many, but tags", by("ann", with(drafted, full...)), edit("ann", "de", 0, "<b/>"), asBefore, api.ErrClash},
	})
}

func TestApprove(t *testing.T) {
	for kind, state := range map[api.EventKind]api.CellState{api.EvApprove: api.CeApproved, api.EvReject: api.CeRejected} {
		review := func(who string, n int) api.Event { return on(kind, who, "de", n) }
		passed := func(who string, c api.Cell) api.Cell {
			c.State, c.Reviewer = state, who
			return c
		}
		tryMoves(t, []move{
			{"draft", drafted, review("bob", 0), passed("bob", drafted), api.OK},
			{"by one with both roles", with(drafted, "x|ann+"), review("cy", 0), passed("cy", with(drafted, "x|ann+")), api.OK},
			{"locked", by("bob", drafted), review("bob", 0), by("bob", passed("bob", drafted)), api.OK},
			{"no language", drafted, on(kind, "dan", "en", 0), asBefore, api.ErrNone},
			{"no segment", drafted, review("dan", 2), asBefore, api.ErrNone},
			{"segment below", drafted, review("bob", -1), asBefore, api.ErrNone},
			{"no reviewer", draft("x", "cy", 1), review("ann", 0), asBefore, api.ErrScope},
			{"no reviewer, empty", empty, review("", 0), asBefore, api.ErrScope},
			{"empty", empty, review("bob", 0), asBefore, api.ErrState},
			{"rejected", refused, review("cy", 0), asBefore, api.ErrState},
			{"approved", done, review("cy", 0), asBefore, api.ErrState},
			{"stale", stale(drafted), review("bob", 0), asBefore, api.ErrState},
			{"locked by somebody else", by("ann", drafted), review("bob", 0), asBefore, api.ErrState},
			{"own, locked by somebody else", by("ann", draft("x", "cy", 1)), review("cy", 0), asBefore, api.ErrState},
			{"own", draft("x", "cy", 1), review("cy", 0), asBefore, api.ErrClash},
			{"own, locked", by("cy", draft("x", "cy", 1)), review("cy", 0), asBefore, api.ErrClash},
		})
	}
}

func TestReopen(t *testing.T) {
	tryMoves(t, []move{
		{"approved", done, reopen("cy", "de", 0), drafted, api.OK},
		{"rejected", with(refused, "x|ann"), reopen("bob", "de", 0), with(drafted, "x|ann"), api.OK},
		{"stale", stale(done), reopen("bob", "de", 0), stale(drafted), api.OK},
		{"own", approved("x", "cy", "bob", 1), reopen("cy", "de", 0), draft("x", "cy", 1), api.OK},
		{"locked by somebody else", by("ann", done), reopen("bob", "de", 0), by("ann", drafted), api.OK},
		{"no language", done, reopen("dan", "en", 0), asBefore, api.ErrNone},
		{"no segment", done, reopen("dan", "de", 2), asBefore, api.ErrNone},
		{"no reviewer", done, reopen("ann", "de", 0), asBefore, api.ErrScope},
		{"no reviewer, empty", empty, reopen("", "de", 0), asBefore, api.ErrScope},
		{"empty", empty, reopen("bob", "de", 0), asBefore, api.ErrState},
		{"draft", drafted, reopen("bob", "de", 0), asBefore, api.ErrState},
		{"stale draft", stale(drafted), reopen("bob", "de", 0), asBefore, api.ErrState},
	})
}

func TestPick(t *testing.T) {
	l := []string{"A|cy+", "Z|ann", "Z|cy", "Z<b></b>|cy"}
	full := many(api.MaxOthers)
	rest := append([]string{"Eins. |ann"}, full[:15]...)
	tryMoves(t, []move{
		{"of an empty cell", by("ann", with(empty, l...)), take("ann", "de", 0, 0), by("ann", with(draft("A", "cy", 7), l[1:]...)), api.OK},
		{"of a draft", by("ann", with(drafted, l...)), take("ann", "de", 0, 1), by("ann", with(draft("Z", "ann", 7), "A|cy+", "Eins. |ann", "Z|cy", "Z<b></b>|cy")), api.OK},
		{"of a rejected cell", by("cy", with(refused, l...)), take("cy", "de", 0, 2), by("cy", with(draft("Z", "cy", 7), "A|cy+", "Eins. |ann", "Z|ann", "Z<b></b>|cy")), api.OK},
		{"of a stale cell", by("ann", with(stale(done), "A|cy+")), take("ann", "de", 0, 0), by("ann", with(draft("A", "cy", 7), "Eins. |ann+")), api.OK},
		{"its own text by another author", by("ann", with(drafted, "Eins. |cy")), take("ann", "de", 0, 0), by("ann", with(draft("Eins. ", "cy", 7), "Eins. |ann")), api.OK},
		{"of many", by("ann", with(drafted, full...)), take("ann", "de", 0, 15), by("ann", with(draft("x015", "zoe", 7), rest...)), api.OK},
		{"with tags", by("ann", with(empty, l...)), take("ann", "de", 1, 3), by("ann", with(draft("Z<b></b>", "cy", 7), l[:3]...)), api.OK},

		{"no language", by("ann", with(empty, l...)), take("dan", "en", 0, 9), asBefore, api.ErrNone},
		{"no segment", by("ann", with(empty, l...)), take("dan", "de", 2, 0), asBefore, api.ErrNone},
		{"no translator", by("bob", with(empty, l...)), take("bob", "de", 0, 0), asBefore, api.ErrScope},
		{"no translator, no Other", by("bob", with(empty, l...)), take("bob", "de", 0, 9), asBefore, api.ErrScope},
		{"not locked", with(empty, l...), take("ann", "de", 0, 0), asBefore, api.ErrState},
		{"locked by somebody else", by("cy", with(empty, l...)), take("ann", "de", 0, 9), asBefore, api.ErrState},
		{"approved", by("ann", with(done, l...)), take("ann", "de", 0, 0), asBefore, api.ErrState},
		{"approved, no Other", by("ann", with(done, l...)), take("ann", "de", 0, 4), asBefore, api.ErrState},
		{"no Other", by("ann", with(drafted, l...)), take("ann", "de", 0, 4), asBefore, api.ErrNone},
		{"no Other below", by("ann", with(drafted, l...)), take("ann", "de", 0, -1), asBefore, api.ErrNone},
		{"none at all", by("ann", drafted), take("ann", "de", 0, 0), asBefore, api.ErrNone},
		{"tags", by("ann", with(empty, l...)), take("ann", "de", 0, 3), asBefore, api.ErrClash},
		{"no tags", by("ann", with(empty, l...)), take("ann", "de", 1, 0), asBefore, api.ErrClash},
	})
}

func TestLanguage(t *testing.T) {
	o := two()
	o.Cells[0][0], o.Cells[1][1] = drafted, locked(api.Cell{}, "cy")
	for at, lang := range []string{"a", "en", "x-9"} {
		want := copied(o)
		want.Langs = slices.Insert(want.Langs, at, lang)
		want.Cells = slices.Insert(want.Cells, at, []api.Cell{{}, {}})
		apply(t, o, language(lang), want, api.OK)
	}
	apply(t, o, language("De"), o, api.ErrName)
	apply(t, o, language(""), o, api.ErrName)
	apply(t, o, language("de"), o, api.ErrTwice)
	apply(t, o, language("fr"), o, api.ErrTwice)
	for _, lang := range []string{"a", "b", "c", "g", "h", "i"} {
		o = ran(o, language(lang))
	}
	apply(t, o, language("z"), o, api.ErrLimit)
	apply(t, o, language("de"), o, api.ErrTwice)
	apply(t, o, language("Z"), o, api.ErrName)
	apply(t, api.Office{}, language("z"), api.Office{Langs: []string{"z"}, Cells: [][]api.Cell{nil}}, api.OK)
}

func TestPerson(t *testing.T) {
	o := two()
	for at, p := range map[int]api.Person{
		0: {Lang: "de", Name: "an", Role: api.RoReviewer},
		1: {Lang: "de", Name: "ann", Role: api.RoReviewer},
		4: {Lang: "de", Name: "d", Role: api.RoTranslator},
		5: {Lang: "fr", Name: "bob", Role: api.RoTranslator},
		8: {Lang: "fr", Name: "z", Role: api.RoTranslator},
	} {
		want := copied(o)
		want.People = slices.Insert(want.People, at, p)
		apply(t, o, person(p.Name, p.Lang, p.Role), want, api.OK)
	}
	apply(t, o, person("", "en", 0), o, api.ErrNone)
	apply(t, o, person("dan", "", api.RoReviewer), o, api.ErrNone)
	apply(t, o, person("Dan", "de", 0), o, api.ErrName)
	apply(t, o, person("", "de", api.RoReviewer), o, api.ErrName)
	apply(t, o, person("ann", "de", api.RoNone), o, api.ErrArg)
	apply(t, o, person("ann", "de", api.RoReviewer+1), o, api.ErrArg)
	apply(t, o, person("ann", "de", api.RoTranslator), o, api.ErrTwice)
	apply(t, o, person("cy", "fr", api.RoReviewer), o, api.ErrTwice)
	for i := len(o.People); i < api.MaxPeople; i++ {
		o = ran(o, person(string(rune('a'+i%26))+strings.Repeat("x", i%16), "de", api.RoReviewer))
	}
	apply(t, o, person("new", "de", api.RoTranslator), o, api.ErrLimit)
	apply(t, o, person("ann", "de", api.RoTranslator), o, api.ErrTwice)
	apply(t, o, person("new", "de", api.RoNone), o, api.ErrArg)
}

func TestApplyErrors(t *testing.T) {
	bad := two()
	bad.Rules[0].Before = "%"
	o := two()
	for _, kind := range []api.EventKind{api.EvNone, api.EvPick + 1, 255} {
		apply(t, bad, api.Event{Kind: kind}, bad, api.ErrForm)
		apply(t, o, on(kind, "ann", "de", 0), o, api.ErrArg)
	}
	apply(t, bad, lock("ann", "en", 0), bad, api.ErrForm)
}

func TestRun(t *testing.T) {
	o := two()
	before := copied(o)
	out, at, e := office.Run(o, nil)
	if e != api.OK || at != 0 {
		t.Errorf("no events: %d, error %d", at, e)
	}
	equal(t, "no events", out, o)
	events := accepted("de", 0, "Eins. ")
	want := copied(o)
	want.Cells[0][0] = approved("Eins. ", "ann", "bob", 7)
	out, at, e = office.Run(o, events)
	if e != api.OK || at != 4 {
		t.Errorf("events: %d, error %d", at, e)
	}
	equal(t, "events", out, want)
	// The first one that goes wrong ends the run, and the office ahead of it is told.
	out, at, e = office.Run(o, append(events, edit("ann", "de", 0, "x"), lock("ann", "en", 0)))
	if e != api.ErrState || at != 4 {
		t.Errorf("an error: %d, error %d", at, e)
	}
	equal(t, "ahead of an error", out, want)
	out, at, e = office.Run(o, []api.Event{{}, lock("ann", "de", 0)})
	if e != api.ErrArg || at != 0 {
		t.Errorf("an error at once: %d, error %d", at, e)
	}
	equal(t, "an error at once", out, o)
	if !same(o, before) {
		t.Error("Run changed its argument")
	}
}

func TestRunLimits(t *testing.T) {
	o := two()
	turns := slices.Repeat([]api.Event{lock("ann", "de", 0), free("ann", "de", 0)}, api.MaxEvents/2)
	out, at, e := office.Run(o, turns)
	if e != api.OK || at != api.MaxEvents {
		t.Errorf("%d events: %d, error %d", len(turns), at, e)
	}
	equal(t, "as many as may be", out, o)
	more := append([]api.Event{{}}, turns...)
	if out, at, e := office.Run(o, more); e != api.ErrLimit || at != 0 || !same(out, api.Office{}) {
		t.Errorf("%d events: %d, error %d", len(more), at, e)
	}
	bad := two()
	bad.Version = -1
	for _, l := range [][]api.Event{nil, more} {
		if out, at, e := office.Run(bad, l); e != api.ErrArg || at != 0 || !same(out, api.Office{}) {
			t.Errorf("a wrong office: %+v, %d, error %d", out, at, e)
		}
	}
}

// A run stops ahead of an event that would go above a limit, with nothing of it done.
func TestRunHalf(t *testing.T) {
	o := two()
	o.Cells[0][0] = locked(with(drafted, many(api.MaxOthers)...), "ann")
	out, at, e := office.Run(o, []api.Event{free("ann", "de", 0), lock("cy", "de", 0), edit("cy", "de", 0, "x")})
	if e != api.ErrLimit || at != 2 {
		t.Errorf("%d, error %d", at, e)
	}
	want := copied(o)
	want.Cells[0][0].Lock = "cy"
	equal(t, "ahead of the limit", out, want)
}

// What comes of events has no memory in common with what they were done to.
func TestMemory(t *testing.T) {
	for _, x := range []api.Event{
		language("en"), person("dan", "de", api.RoReviewer), lock("cy", "de", 0), source("p One. Three\n"), edit("cy", "de", 1, "<+b>x</b>"),
	} {
		o := rich()
		o.People = append(o.People[:3:3], api.Person{Lang: "de", Name: "cy", Role: api.RoTranslator}, o.People[3])
		o.Cells[0][0].Lock, o.Cells[0][1].Lock = "", "cy"
		before := copied(o)
		out, at, e := office.Run(o, []api.Event{x})
		if e != api.OK || at != 1 {
			t.Fatalf("%+v: %d, error %d", x, at, e)
		}
		kept := copied(out)
		spoil(out)
		equal(t, "argument", o, before)
		out, _ = office.Apply(o, x)
		equal(t, "again", out, kept)
		spoil(o)
		equal(t, "result", out, kept)
	}
	rules := stops()
	o, _ := office.New("p One. Two\n", rules)
	clear(rules)
	equal(t, "New", o, api.Office{Source: document("p One. Two\n"), Rules: stops()})
}

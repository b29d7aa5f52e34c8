package office_test

import (
	"math/rand/v2"
	"slices"
	"strings"
	"testing"

	"truchman/api"
	"truchman/docs"
	"truchman/office"
)

// Tests of P9.1 to P9.6, P0.1 and P0.7, with many offices and events that a seed makes. What package office says is held against what the chapter says, worked out in the plainest way.

const rounds = 300

// maker makes offices and events.
type maker struct{ r *rand.Rand }

// text makes the text of a document of a few sentences, which often come again.
func (m maker) text() string {
	var out strings.Builder
	for range m.r.IntN(4) {
		kind := pick(m.r, "p", "p", "h1", "li", "raw")
		out.WriteString(kind + " ")
		for range m.r.IntN(4) {
			if kind == "raw" {
				out.WriteString("A. ")
			} else {
				out.WriteString(pick(m.r, "A. ", "B. ", "C. ", "D", "<b>E</b>. ", "<b>A. B</b>", "{n}. ", "<x/>", "\\<. ", "<i>F. </i>"))
			}
		}
		out.WriteString("\n")
	}
	return out.String()
}

// changed makes the text of a source with some other lines.
func (m maker) changed(o api.Office) string {
	text, _ := docs.Print(o.Source)
	l := slices.Collect(strings.Lines(text))
	for range m.r.IntN(3) {
		at := m.r.IntN(len(l) + 1)
		switch m.r.IntN(3) {
		case 0:
			l = slices.Insert(l, at, m.text())
		case 1:
			l = l[:at]
		case 2:
			l = append(l[at:], l[:at]...)
		}
	}
	return strings.Join(l, "")
}

// apart makes the text of a document of which no two segments have the same form.
func (m maker) apart() string {
	var out strings.Builder
	for _, s := range m.some("A", "B", "<b>C</b>", "D. E", "<i>F. G</i>", "{n}", "<x/>", "") {
		out.WriteString(pick(m.r, "p ", "li ", "raw x\nh1 ") + s + "\n")
	}
	return out.String()
}

// some chooses of a list, in any order.
func (m maker) some(l ...string) []string {
	m.r.Shuffle(len(l), func(i, j int) { l[i], l[j] = l[j], l[i] })
	return l[:m.r.IntN(len(l)+1)]
}

func (m maker) who() string { return pick(m.r, "ann", "bob", "cy", "cy", "dan", "") }

// translation makes a text with the tags of a segment.
func (m maker) translation(s api.Segment) string {
	l := slices.Clone(s.Pieces)
	for i := range l {
		if l[i].Kind == api.PiText {
			l[i].Text = pick(m.r, "a", "b", "c")
		}
	}
	text, e := docs.Write(l)
	if e != api.OK {
		panic(e)
	}
	return text
}

// event makes an event on an office, often one without an error.
func (m maker) event(o api.Office) api.Event {
	switch m.r.IntN(80) {
	case 0:
		return source(m.text())
	case 1:
		return source(m.changed(o))
	case 2:
		return source(pick(m.r, "p", "p <b>\n", "raw {n}\n", "x", "p "+strings.Repeat("A. ", 129)+"\n"))
	case 3:
		return language(pick(m.r, "de", "en", "fr", "it", "", "D"))
	case 4, 5:
		return person(m.who(), pick(m.r, "de", "en", "fr"), api.Role(m.r.IntN(4)))
	case 6:
		return api.Event{Kind: api.EventKind(m.r.IntN(14)), Who: m.who(), Lang: "de", Segment: m.r.IntN(5) - 1}
	}
	return m.cellEvent(o)
}

func (m maker) cellEvent(o api.Office) api.Event {
	segments, _ := docs.Segments(o.Source, o.Rules)
	if len(segments) == 0 || len(o.Langs) == 0 {
		return lock(m.who(), "de", 0)
	}
	lang, i := m.r.IntN(len(o.Langs)), m.r.IntN(len(segments))
	i = min(i, m.r.IntN(len(segments))) // so that some cells have many events
	c := o.Cells[lang][i]
	x := on(m.kind(c), c.Lock, o.Langs[lang], i)
	if c.Lock == "" {
		x.Who = pick(m.r, "ann", "bob", "cy", "cy")
	}
	if m.r.IntN(8) == 0 {
		x.Who = m.who()
	}
	if m.r.IntN(10) == 0 {
		x.Kind = api.EvLock + api.EventKind(m.r.IntN(7))
	}
	x.Text = m.translation(segments[i])
	if m.r.IntN(8) == 0 {
		x.Text = pick(m.r, "<", "<b>", "a<b>b</b>", "a<x/>", "a")
	}
	x.Number = m.r.IntN(len(c.Others)+2) - m.r.IntN(2)
	return x
}

// kind makes a kind of event that a cell may have.
func (m maker) kind(c api.Cell) api.EventKind {
	switch {
	case c.Lock != "":
		return pick(m.r, api.EvEdit, api.EvEdit, api.EvPick, api.EvPick, api.EvFree, api.EvFree)
	case c.State == api.CeDraft && !c.Stale:
		return pick(m.r, api.EvApprove, api.EvApprove, api.EvReject, api.EvLock)
	case c.State == api.CeRejected || c.State == api.CeApproved:
		return pick(m.r, api.EvLock, api.EvReopen, api.EvReopen)
	}
	return api.EvLock
}

// office makes an office with people in some languages.
func (m maker) office(text string) api.Office {
	o, e := office.New(text, stops())
	if e != api.OK {
		panic(e)
	}
	for _, lang := range pick(m.r, m.some("de", "en", "fr"), []string{"en"}, []string{"fr", "de"}) {
		o = ran(o, language(lang))
		o = ran(o, person("cy", lang, api.RoTranslator))
		for range m.r.IntN(8) {
			o = m.step(o, person(pick(m.r, "ann", "bob", "cy"), lang, pick(m.r, api.RoTranslator, api.RoReviewer)))
		}
	}
	return o
}

// step does an event, unless it has an error.
func (m maker) step(o api.Office, x api.Event) api.Office {
	if out, e := office.Apply(o, x); e == api.OK {
		return out
	}
	return o
}

// worked goes on from an office by n events, as far as they have no error.
func (m maker) worked(o api.Office, n int, sources bool) api.Office {
	for range n {
		if x := m.event(o); sources || x.Kind != api.EvSource {
			o = m.step(o, x)
		}
	}
	return o
}

// filled is an office with cells of all kinds, which do not come of events.
func (m maker) filled(o api.Office) api.Office {
	o = copied(o)
	segments, _ := docs.Segments(o.Source, o.Rules)
	for i := range o.Cells {
		for j := range o.Cells[i] {
			o.Cells[i][j] = m.cell(o, o.Langs[i], segments[j])
		}
	}
	return o
}

func (m maker) cell(o api.Office, lang string, s api.Segment) api.Cell {
	c := api.Cell{State: pick(m.r, api.CeEmpty, api.CeDraft, api.CeRejected, api.CeApproved, api.CeApproved)}
	if c.State != api.CeEmpty {
		c.Text, c.Author, c.Since = m.translation(s), pick(m.r, "ann", "cy"), m.r.IntN(o.Version+1)
		if m.r.IntN(3) == 0 {
			c.Stale, c.Text = true, pick(m.r, "a", "<b>b</b>", "")
		}
	}
	if c.State > api.CeDraft {
		c.Reviewer = pick(m.r, "bob", "dan")
	}
	for _, p := range o.People {
		if p.Lang == lang && m.r.IntN(4) == 0 {
			c.Lock = p.Name
		}
	}
	var l []api.Other
	for range m.r.IntN(4) {
		l = append(l, api.Other{Text: pick(m.r, "a", "b", c.Text), Author: pick(m.r, "ann", "cy"), Approved: m.r.IntN(2) == 0})
	}
	c.Others = plainOthers(c, l, api.Cell{})
	return c
}

// doubled has more of the same: texts on the shelf for forms of a document.
func (m maker) doubled(o api.Office, text string) api.Office {
	o = copied(o)
	segments, _ := docs.Segments(document(text), o.Rules)
	for range m.r.IntN(4) {
		if len(segments) > 0 && len(o.Langs) > 0 {
			s := pick(m.r, segments...)
			form, _ := docs.Write(s.Pieces)
			o.Shelf = append(o.Shelf, shelved(pick(m.r, o.Langs...), form, m.translation(s), pick(m.r, "ann", "cy"), pick(m.r, "bob", "dan"), 0))
		}
	}
	slices.SortFunc(o.Shelf, plainShelved)
	o.Shelf = slices.Compact(o.Shelf)
	return o
}

func TestRandomEvents(t *testing.T) {
	m := maker{dice()}
	done := map[api.EventKind]int{}
	for range rounds {
		o := m.office(m.text() + m.text())
		for range 100 {
			x := m.event(o)
			want, e := plainApply(o, x)
			apply(t, o, x, want, e)
			out, e := office.Apply(o, x)
			if e != api.OK {
				continue
			}
			done[x.Kind]++
			holdsEvent(t, o, out, x)
			o = out
		}
		if t.Failed() {
			return
		}
	}
	for kind := api.EvSource; kind <= api.EvPick; kind++ {
		if done[kind] < 50 {
			t.Errorf("events of kind %d were done %d times", kind, done[kind])
		}
	}
}

// holdsEvent holds what P9.4 promises of an event.
func holdsEvent(t *testing.T, o, out api.Office, x api.Event) {
	t.Helper()
	if e := plainCheck(out); e != api.OK {
		t.Errorf("%+v: not valid, error %d", x, e)
	}
	if x.Kind == api.EvApprove {
		if c := cellAt(out, x.Lang, x.Segment); c.Author == x.Who || c.Reviewer != x.Who {
			t.Errorf("%+v: %+v", x, c)
		}
	}
	if x.Kind == api.EvSource {
		return
	}
	for i, lang := range o.Langs {
		for j, c := range o.Cells[i] {
			now := cellAt(out, lang, j)
			if isDone(c) && x.Kind != api.EvReopen && textOf(now) != textOf(c) {
				t.Errorf("%+v changed an approved text: %+v, %+v", x, c, now)
			}
			for _, other := range append(slices.Clone(c.Others), api.Other{Text: c.Text, Author: c.Author}) {
				if other.Author != "" && !isThere(now, other.Text, other.Author) {
					t.Errorf("%+v lost a text: %+v, %+v", x, c, now)
				}
			}
		}
	}
}

// isThere reports whether a text is that of a cell or one of its Others.
func isThere(c api.Cell, text, author string) bool {
	return c.Text == text && c.Author == author || slices.ContainsFunc(c.Others, func(x api.Other) bool { return x.Text == text && x.Author == author })
}

func TestRandomRuns(t *testing.T) {
	m := maker{dice()}
	for range rounds {
		o := m.filled(m.office(m.text()))
		var l []api.Event
		want, at, e := o, 0, api.OK
		for range m.r.IntN(12) {
			x := m.event(want)
			l = append(l, x)
			if next, f := plainApply(want, x); e == api.OK && f == api.OK {
				want, at = next, at+1
			} else if e == api.OK {
				e = f
			}
		}
		out, n, f := office.Run(o, l)
		if n != at || f != e || !same(out, want) {
			t.Fatalf("%+v: %+v, %d, error %d, want %+v, %d, %d", l, out, n, f, want, at, e)
		}
	}
}

func TestRandomUpdates(t *testing.T) {
	m := maker{dice()}
	kept := 0
	for range 4 * rounds {
		o := m.filled(m.office(m.text() + m.text()))
		text := pick(m.r, m.text(), m.changed(o))
		o = m.doubled(o, text)
		valid(t, o)
		want, e := plainSource(o, text)
		apply(t, o, source(text), want, e)
		out := ran(o, source(text))
		from, keeps, e := office.Touched(o, text)
		old, new := plainForms(o.Source, o.Rules), plainForms(out.Source, o.Rules)
		plainFrom, plainKept := plainOrigins(old, new)
		if e != api.OK || !slices.Equal(from, plainFrom) || !slices.Equal(keeps, plainKept) {
			t.Fatalf("Touched(%q, %q): %v %v, error %d, want %v %v", old, new, from, keeps, e, plainFrom, plainKept)
		}
		for _, x := range keeps {
			if x {
				kept++
			}
		}
		holdsUpdate(t, o, out, from, keeps)
		if n := touches(from, keeps, len(old)); n != fewest(old, new) {
			t.Fatalf("%q, %q: %d touched, not %d", old, new, n, fewest(old, new))
		}
		if t.Failed() {
			return
		}
	}
	if kept < 4*rounds {
		t.Errorf("%d segments were kept", kept)
	}
}

// holdsUpdate holds what P9.5 promises of an update.
func holdsUpdate(t *testing.T, o, out api.Office, from []int, kept []bool) {
	t.Helper()
	old, new := plainForms(o.Source, o.Rules), plainForms(out.Source, o.Rules)
	for i, lang := range o.Langs {
		for k, c := range out.Cells[i] {
			if kept[k] && (!sameCell(c, o.Cells[i][from[k]]) || old[from[k]] != new[k]) {
				t.Errorf("%s %d: kept, but %+v, %+v", lang, k, c, o.Cells[i][from[k]])
			}
			if !kept[k] && (c.Lock != "" || isEmptyWithOthers(c)) {
				t.Errorf("%s %d: %+v", lang, k, c)
			}
		}
		for j, c := range o.Cells[i] {
			if isDone(c) && !isSafe(out, i, new, old[j], c) {
				t.Errorf("%s: the text of %q is lost: %+v", lang, old[j], c)
			}
		}
	}
}

func isEmptyWithOthers(c api.Cell) bool { return c.State == api.CeEmpty && len(c.Others) > 0 }

// isSafe reports whether the text of a cell is in an approved and fresh cell of a form, or on the shelf for it.
func isSafe(o api.Office, lang int, forms []string, form string, c api.Cell) bool {
	for k, x := range o.Cells[lang] {
		if forms[k] == form && textOf(x) == textOf(c) {
			return true
		}
	}
	return slices.Contains(o.Shelf, shelved(o.Langs[lang], form, c.Text, c.Author, c.Reviewer, c.Since))
}

// touches is how many segments of both sources are not kept, those that are swapped once.
func touches(from []int, kept []bool, old int) int {
	n, taken := 0, 0
	for i := range from {
		if !kept[i] {
			n++
		}
		if from[i] >= 0 {
			taken++
		}
	}
	return n + old - taken
}

// fewest tries all ways to make one list of another one.
func fewest(a, b []string) int {
	memo := map[[2]int]int{}
	var least func(i, j int) int
	least = func(i, j int) int {
		if i == len(a) || j == len(b) {
			return len(a) - i + len(b) - j
		}
		if n, ok := memo[[2]int{i, j}]; ok {
			return n
		}
		n := 1 + min(least(i+1, j), least(i, j+1), least(i+1, j+1))
		if a[i] == b[j] {
			n = min(n, least(i+1, j+1))
		}
		memo[[2]int{i, j}] = n
		return n
	}
	return least(0, 0)
}

func TestRandomThereAndBack(t *testing.T) {
	m := maker{dice()}
	found := 0
	for range 3 * rounds {
		text := m.apart()
		o := m.filled(m.office(text))
		back := ran(o, source(m.apart()), source(text))
		if back.Version != 2 || !docs.Same(back.Source, o.Source) {
			t.Fatalf("%+v", back)
		}
		for i := range o.Langs {
			for j, c := range o.Cells[i] {
				if isDone(c) && textOf(back.Cells[i][j]) != textOf(c) {
					t.Fatalf("%q: %+v, %+v", text, c, back.Cells[i][j])
				} else if isDone(c) {
					found++
				}
			}
		}
		// With other texts on the shelf they are approved all the same.
		o = m.doubled(o, text)
		back = ran(o, source(m.apart()), source(text))
		for i := range o.Langs {
			for j, c := range o.Cells[i] {
				if isDone(c) && !isDone(back.Cells[i][j]) {
					t.Fatalf("%q: %+v, %+v", text, c, back.Cells[i][j])
				}
			}
		}
	}
	if found < rounds {
		t.Errorf("%d approved cells", found)
	}
}

// sessions makes a base and two sessions that went on from it.
func (m maker) sessions() (base, a, b api.Office) {
	base = m.worked(m.filled(m.office(m.text())), m.r.IntN(10), true)
	text := m.text()
	base = m.doubled(base, text)
	a, b = m.worked(base, m.r.IntN(20), m.r.IntN(8) == 0), m.worked(base, m.r.IntN(20), m.r.IntN(8) == 0)
	if m.r.IntN(3) == 0 {
		a = ran(a, source(text))
	}
	if m.r.IntN(3) == 0 {
		b = ran(b, source(text))
	}
	if m.r.IntN(2) == 0 { // what does not come of events
		a = m.filled(a)
	}
	if m.r.IntN(2) == 0 {
		b = m.filled(b)
	}
	return base, m.worked(a, m.r.IntN(10), false), m.worked(b, m.r.IntN(10), false)
}

func TestRandomMerges(t *testing.T) {
	m := maker{dice()}
	count, conflicts, updates := 0, 0, 0
	for range 4 * rounds {
		base, a, b := m.sessions()
		want, l, e := plainMerge(base, a, b)
		if e != api.OK {
			refuses(t, "random", base, a, b, e)
			continue
		}
		out, got := merged(t, base, a, b)
		equal(t, "merged", out, want)
		if !slices.Equal(got, l) {
			t.Errorf("conflicts %v, want %v", got, l)
		}
		holdsMerge(t, base, a, b, out)
		if t.Failed() {
			return
		}
		count, conflicts = count+1, conflicts+len(l)
		if !docs.Same(out.Source, b.Source) {
			updates++
		}
	}
	if count < rounds || conflicts < rounds || updates < rounds/4 {
		t.Errorf("%d merges, %d with an update, %d conflicts", count, updates, conflicts)
	}
}

// holdsMerge holds what P9.6 promises of a merged office.
func holdsMerge(t *testing.T, base, a, b, out api.Office) {
	t.Helper()
	for _, o := range []*api.Office{&base, &a, &b} {
		if !docs.Same(o.Source, out.Source) {
			*o = plainUpdate(*o, out.Source)
		}
	}
	for _, lang := range out.Langs {
		for i := range plainForms(out.Source, out.Rules) {
			c, old := cellAt(out, lang, i), cellAt(base, lang, i)
			x, y := cellAt(a, lang, i), cellAt(b, lang, i)
			for _, s := range []api.Cell{x, y} {
				if isDone(s) && textOf(s) != textOf(old) && !isApprovedIn(c, s.Text, s.Author) {
					t.Errorf("%s %d lost an approved text: %+v, %+v", lang, i, s, c)
				}
			}
			if textOf(x) == textOf(old) && textOf(c) != textOf(y) || textOf(y) == textOf(old) && textOf(c) != textOf(x) {
				t.Errorf("%s %d: %+v of %+v, %+v, %+v", lang, i, c, old, x, y)
			}
		}
	}
}

// isApprovedIn reports whether a text is the approved and fresh one of a cell, or among its Others as approved.
func isApprovedIn(c api.Cell, text, author string) bool {
	return isDone(c) && c.Text == text && c.Author == author || slices.Contains(c.Others, api.Other{Text: text, Author: author, Approved: true})
}

func TestRandomMergesWithItself(t *testing.T) {
	m := maker{dice()}
	for range rounds {
		base, a, b := m.sessions()
		if out, l, e := office.Merge(base, a, a); e != api.OK || !same(out, a) || len(l) > 0 {
			t.Fatalf("%+v with itself: %+v, %v, error %d", a, out, l, e)
		}
		if !docs.Same(b.Source, base.Source) {
			continue
		}
		out, l := merged(t, base, b, base)
		for i, row := range b.Cells {
			for j, c := range row {
				if textOf(out.Cells[slices.Index(out.Langs, b.Langs[i])][j]) != textOf(c) {
					t.Fatalf("%+v with its base: %+v, %v", b, out, l)
				}
			}
		}
		if len(l) > 0 {
			t.Fatalf("%+v with its base: %v", b, l)
		}
	}
}

// crooked changes something of an office, at random.
func (m maker) crooked(o *api.Office) {
	name := pick(m.r, "", "A", "ann", "bob", "x y", "de", "en", "zz")
	text := pick(m.r, "", "<", "a", "<b>a</b>", "{n}", "<b>", "a\n")
	number := pick(m.r, -1, 0, 1, 2, 3, 1<<62)
	var c *api.Cell
	if len(o.Cells) > 0 && len(o.Cells[0]) > 0 {
		row := pick(m.r, o.Cells...)
		if len(row) > 0 {
			c = &row[m.r.IntN(len(row))]
		}
	}
	switch n := m.r.IntN(24); {
	case n == 0:
		o.Version = number
	case n == 1:
		o.Source = document(m.text())
	case n == 2 && len(o.Source.Blocks) > 0:
		o.Source.Blocks[0].Kind = api.BlockKind(m.r.IntN(9))
	case n == 3:
		o.Rules = append(o.Rules, api.Break{Before: pick(m.r, "%", "%a", "x"), Break: true})
	case n == 4 && len(o.Langs) > 0:
		o.Langs[m.r.IntN(len(o.Langs))] = name
	case n == 5 && len(o.People) > 0:
		o.People[m.r.IntN(len(o.People))].Lang = name
	case n == 6 && len(o.People) > 0:
		o.People[m.r.IntN(len(o.People))].Name = name
	case n == 7 && len(o.People) > 0:
		o.People[m.r.IntN(len(o.People))].Role = api.Role(m.r.IntN(4))
	case n == 8:
		o.Cells = append(o.Cells, nil)
	case n == 9 && len(o.Shelf) > 0:
		o.Shelf[m.r.IntN(len(o.Shelf))].Lang = name
	case n == 10 && len(o.Shelf) > 0:
		o.Shelf[m.r.IntN(len(o.Shelf))].Source = text
	case n == 11 && len(o.Shelf) > 0:
		o.Shelf[m.r.IntN(len(o.Shelf))].Text = text
	case n == 12 && len(o.Shelf) > 0:
		o.Shelf[m.r.IntN(len(o.Shelf))].Reviewer = name
	case n == 13 && len(o.Shelf) > 0:
		o.Shelf[m.r.IntN(len(o.Shelf))].Since = number
	case n == 14 && c != nil:
		c.State = api.CellState(m.r.IntN(6))
	case n == 15 && c != nil:
		c.Stale = !c.Stale
	case n == 16 && c != nil:
		c.Text = text
	case n == 17 && c != nil:
		c.Author = name
	case n == 18 && c != nil:
		c.Reviewer = name
	case n == 19 && c != nil:
		c.Since = number
	case n == 20 && c != nil:
		c.Lock = name
	case n >= 21 && c != nil:
		c.Others = append(c.Others, api.Other{Text: text, Author: name})
	}
}

// All functions take any office, and say what Check says.
func TestRandomChecks(t *testing.T) {
	m := maker{dice()}
	wrong := map[api.Errno]int{}
	for range 20 * rounds {
		text := m.text()
		o := m.doubled(m.filled(m.office(text)), text)
		if m.r.IntN(2) == 0 {
			o = m.worked(o, 5, true)
		}
		good := copied(o)
		for range m.r.IntN(4) {
			m.crooked(&o)
		}
		e := plainCheck(o)
		wrong[e]++
		if got := office.Check(o); got != e {
			t.Fatalf("%+v: error %d, want %d", o, got, e)
		}
		if !office.Same(o, copied(o)) || office.Same(o, good) != same(o, good) || office.Same(good, o) != same(o, good) {
			t.Fatalf("%+v: not the same as its copy, or as %+v", o, good)
		}
		if e != api.OK {
			refusesAll(t, m, o, good, e)
		}
	}
	for _, e := range []api.Errno{api.OK, api.ErrArg, api.ErrForm, api.ErrName, api.ErrTwice, api.ErrNone, api.ErrScope, api.ErrClash} {
		if wrong[e] < 20 {
			t.Errorf("error %d came %d times", e, wrong[e])
		}
	}
}

// refusesAll holds that each function returns the error of an office, and nothing else.
func refusesAll(t *testing.T, m maker, o, good api.Office, e api.Errno) {
	t.Helper()
	x := m.event(good)
	if out, f := office.Apply(o, x); f != e || !same(out, api.Office{}) {
		t.Errorf("Apply: error %d, want %d", f, e)
	}
	if out, at, f := office.Run(o, []api.Event{x}); f != e || at != 0 || !same(out, api.Office{}) {
		t.Errorf("Run: error %d, want %d", f, e)
	}
	if from, kept, f := office.Touched(o, "p A\n"); f != e || from != nil || kept != nil {
		t.Errorf("Touched: error %d, want %d", f, e)
	}
	if a, b, c, d, g, f := office.Progress(o, "de"); f != e || a+b+c+d+g != 0 {
		t.Errorf("Progress: error %d, want %d", f, e)
	}
	if d, f := office.Output(o, "de"); f != e || len(d.Blocks) > 0 {
		t.Errorf("Output: error %d, want %d", f, e)
	}
	refuses(t, "base", o, good, good, e)
	refuses(t, "a", good, o, good, e)
	refuses(t, "b", good, good, o, e)
}

func TestRandomOutput(t *testing.T) {
	m := maker{dice()}
	for range rounds {
		o := m.filled(m.office(m.text()))
		segments, _ := docs.Segments(o.Source, o.Rules)
		for i, lang := range o.Langs {
			l := slices.Clone(segments)
			var counts [5]int
			for j, c := range o.Cells[i] {
				counts[c.State]++
				if c.Stale {
					counts[4]++
				}
				if isDone(c) {
					l[j].Pieces, _ = docs.Read(c.Text)
				}
			}
			want, e := docs.Restore(o.Source, l)
			if d, f := office.Output(o, lang); f != e || !docs.Same(d, want) {
				t.Fatalf("%+v: %+v, error %d, want %+v, %d", o, d, f, want, e)
			}
			a, b, c, d, s, e := office.Progress(o, lang)
			if got := [5]int{a, b, c, d, s}; e != api.OK || got != counts {
				t.Fatalf("%+v: %v, error %d, want %v", o, got, e, counts)
			}
		}
	}
}

// Twins: equal calls have equal results, whatever goroutines do.
func TestTwins(t *testing.T) {
	m := maker{dice()}
	for range rounds / 3 {
		base, a, b := m.sessions()
		first, l, e := office.Merge(base, a, b)
		for range 3 {
			second, k, f := office.Merge(copied(base), copied(a), copied(b))
			if e != f || !slices.Equal(l, k) || !same(first, second) {
				t.Fatalf("%+v, %v, error %d; then %+v, %v, error %d", first, l, e, second, k, f)
			}
		}
	}
}

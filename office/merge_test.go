package office_test

import (
	"slices"
	"testing"

	"truchman/api"
	"truchman/office"
)

// Tests of P9.3 and P9.6: Merge.

// merged returns what comes of two sessions, and holds that their order does not matter and that none is changed.
func merged(t *testing.T, base, a, b api.Office) (api.Office, []api.Conflict) {
	t.Helper()
	before := [3]api.Office{copied(base), copied(a), copied(b)}
	out, l, e := office.Merge(base, a, b)
	if e != api.OK {
		t.Fatalf("error %d", e)
	}
	valid(t, out)
	back, m, e := office.Merge(base, b, a)
	if e != api.OK || !same(out, back) || !slices.Equal(l, m) {
		t.Errorf("the other way round: %+v, %v, error %d, not %+v, %v", back, m, e, out, l)
	}
	if !same(base, before[0]) || !same(a, before[1]) || !same(b, before[2]) {
		t.Error("Merge changed its arguments")
	}
	return out, l
}

// refuses holds the error of Merge.
func refuses(t *testing.T, what string, base, a, b api.Office, e api.Errno) {
	t.Helper()
	if out, l, got := office.Merge(base, a, b); got != e || l != nil || !same(out, api.Office{}) {
		t.Errorf("%s: %+v, %v, error %d, want %d", what, out, l, got, e)
	}
}

func TestMergeCells(t *testing.T) {
	a1, a2 := draft("1", "ann", 1), draft("2", "ann", 2)
	full := many(api.MaxOthers)
	for _, x := range []struct {
		name       string
		base, a, b api.Cell
		want       api.Cell
		conflicts  []api.Conflict
	}{
		{name: "nothing"},
		{name: "nothing new", base: done, a: done, b: done, want: done},
		{name: "one writes", a: a1, want: a1},
		{name: "one writes again", base: a1, a: a2, b: a1, want: a2},
		{name: "one reviews", base: drafted, a: done, b: drafted, want: done},
		{name: "one reopens", base: done, a: drafted, b: done, want: drafted},
		{name: "one goes back to none", base: a1, a: empty, b: a1, want: empty},
		{name: "both do the same", base: a1, a: a2, b: a2, want: a2},
		{name: "both to none", base: a1, a: empty, b: empty, want: empty},
		{name: "another version is another text", base: a1, a: draft("1", "ann", 2), b: a1, want: draft("1", "ann", 2)},

		// Conflicts, by what the greater one is greater by.
		{name: "approved and fresh, but earlier", base: empty, a: approved("9", "z", "y", 0), b: draft("1", "a", 3),
			want: with(approved("9", "z", "y", 0), "1|a"), conflicts: []api.Conflict{{Kept: "9", Lost: "1"}}},
		{name: "approved and fresh, not stale", base: empty, a: approved("9", "z", "y", 0), b: stale(approved("1", "a", "b", 3)),
			want: with(approved("9", "z", "y", 0), "1|a+"), conflicts: []api.Conflict{{Kept: "9", Lost: "1"}}},
		{name: "state", base: a1, a: rejected("9", "z", "y", 0), b: draft("1", "a", 3),
			want: with(rejected("9", "z", "y", 0), "1|a"), conflicts: []api.Conflict{{Kept: "9", Lost: "1"}}},
		{name: "state, though stale", base: a1, a: stale(approved("9", "z", "y", 0)), b: draft("1", "a", 3),
			want: with(stale(approved("9", "z", "y", 0)), "1|a"), conflicts: []api.Conflict{{Kept: "9", Lost: "1"}}},
		{name: "state above none", base: a1, a: stale(draft("9", "z", 0)), b: empty,
			want: stale(draft("9", "z", 0)), conflicts: []api.Conflict{{Kept: "9", Lost: ""}}},
		{name: "fresh", base: empty, a: draft("9", "z", 0), b: stale(draft("1", "a", 3)),
			want: with(draft("9", "z", 0), "1|a"), conflicts: []api.Conflict{{Kept: "9", Lost: "1"}}},
		{name: "lesser text", base: empty, a: rejected("1", "z", "y", 0), b: rejected("10", "a", "b", 3),
			want: with(rejected("1", "z", "y", 0), "10|a"), conflicts: []api.Conflict{{Kept: "1", Lost: "10"}}},
		{name: "lesser author", base: empty, a: approved("1", "a", "y", 0), b: approved("1", "z", "b", 3),
			want: with(approved("1", "a", "y", 0), "1|z+"), conflicts: []api.Conflict{{Kept: "1", Lost: "1"}}},
		{name: "lesser reviewer", base: empty, a: approved("1", "z", "a", 0), b: approved("1", "z", "b", 3),
			want: approved("1", "z", "a", 0), conflicts: []api.Conflict{{Kept: "1", Lost: "1"}}},
		{name: "greater version", base: empty, a: approved("1", "z", "a", 3), b: approved("1", "z", "a", 0),
			want: approved("1", "z", "a", 3), conflicts: []api.Conflict{{Kept: "1", Lost: "1"}}},
		{name: "both go on from a text", base: a1, a: a2, b: draft("3", "cy", 2),
			want: with(a2, "3|cy"), conflicts: []api.Conflict{{Kept: "2", Lost: "3"}}},
		{name: "a draft and its approval", base: empty, a: drafted, b: done,
			want: done, conflicts: []api.Conflict{{Kept: "Eins. ", Lost: "Eins. "}}},

		// Others.
		{name: "Others of both", base: with(empty, "z|z"), a: with(empty, "a|x", "b|x+"), b: with(empty, "a|w", "a|x+", "b|x"),
			want: with(empty, "a|w", "a|x+", "b|x+")},
		{name: "not the own text", base: a1, a: a2, b: with(a1, "2|ann+", "2|cy"), want: with(a2, "2|cy")},
		{name: "but of a cell without a text", base: a1, a: empty, b: with(a1, "|ann"), want: with(empty, "|ann")},
		{name: "the lost text stands there", base: empty, a: with(a1, "2|ann+"), b: a2, want: with(a1, "2|ann+"), conflicts: []api.Conflict{{Kept: "1", Lost: "2"}}},
		{name: "the lost text is approved now", base: empty, a: with(approved("1", "cy", "bob", 0), "2|ann"), b: approved("2", "ann", "bob", 0),
			want: with(approved("1", "cy", "bob", 0), "2|ann+"), conflicts: []api.Conflict{{Kept: "1", Lost: "2"}}},
		{name: "the kept text stands there", base: empty, a: a1, b: with(a2, "1|ann", "3|ann"), want: with(a1, "2|ann", "3|ann"), conflicts: []api.Conflict{{Kept: "1", Lost: "2"}}},
		{name: "others of the base alone are gone", base: with(a1, "x|ann"), a: a1, b: a1, want: a1},
		{name: "as many as may be", base: empty, a: with(a1, full[:8]...), b: with(a1, full[8:]...), want: with(a1, full...)},
		{name: "as many as may be, one lost", base: empty, a: with(a1, full[1:8]...), b: with(a2, full[8:]...),
			want: with(a1, append([]string{"2|ann"}, full[1:]...)...), conflicts: []api.Conflict{{Kept: "1", Lost: "2"}}},

		// Locks.
		{name: "equal locks", base: empty, a: by("ann", empty), b: by("ann", empty), want: by("ann", empty)},
		{name: "one locks", base: empty, a: by("ann", a1), b: empty, want: by("ann", a1)},
		{name: "one frees", base: by("ann", empty), a: a1, b: by("ann", empty), want: a1},
		{name: "one hands over", base: by("ann", empty), a: by("cy", empty), b: by("ann", a1), want: by("cy", a1)},
		{name: "both free", base: by("ann", empty), want: empty},
		{name: "both lock", base: empty, a: by("ann", empty), b: by("cy", empty), want: empty},
		{name: "one hands over, one frees", base: by("ann", empty), a: by("cy", empty), b: empty, want: empty},
		{name: "a lock does not follow the text", base: by("ann", empty), a: by("ann", a1), b: by("cy", empty), want: by("cy", a1)},
	} {
		t.Run(x.name, func(t *testing.T) {
			base, a, b := two(), two(), two()
			base.Cells[0][0], a.Cells[0][0], b.Cells[0][0] = x.base, x.a, x.b
			want := two()
			want.Cells[0][0] = x.want
			out, l := merged(t, base, a, b)
			equal(t, x.name, out, want)
			for i := range x.conflicts {
				x.conflicts[i].Lang = "de"
			}
			if !slices.Equal(l, x.conflicts) {
				t.Errorf("conflicts %v, want %v", l, x.conflicts)
			}
		})
	}
	base, a, b := two(), two(), two()
	a.Cells[0][0], b.Cells[0][0] = with(a1, full[:9]...), with(a2, full[9:]...)
	refuses(t, "too many Others", base, a, b, api.ErrLimit)
	a.Cells[0][0], b.Cells[0][0] = with(a1, full...), with(a1, "a|a")
	refuses(t, "too many Others of both", base, a, b, api.ErrLimit)
}

// Conflicts are told by languages, then by segments.
func TestMergeConflicts(t *testing.T) {
	base, a, b := two(), two(), two()
	a.Cells = [][]api.Cell{{draft("1", "ann", 0), draft("<b>4</b>", "ann", 0)}, {draft("5", "ann", 0), draft("<b>7</b>", "ann", 0)}}
	b.Cells = [][]api.Cell{{draft("2", "ann", 0), draft("<b>3</b>", "ann", 0)}, {draft("5", "ann", 0), draft("<b>8</b>", "ann", 0)}}
	out, l := merged(t, base, a, b)
	want := []api.Conflict{{Lang: "de", Kept: "1", Lost: "2"}, {Lang: "de", Segment: 1, Kept: "<b>3</b>", Lost: "<b>4</b>"}, {Lang: "fr", Segment: 1, Kept: "<b>7</b>", Lost: "<b>8</b>"}}
	if !slices.Equal(l, want) {
		t.Errorf("%v, want %v", l, want)
	}
	isCell(t, "lost", out.Cells[0][1], with(draft("<b>3</b>", "ann", 0), "<b>4</b>|ann"))
}

func TestMergeLists(t *testing.T) {
	base := two()
	base.Shelf = shelf("de", "x", 2)
	a := ran(two(), language("aa"), language("en"), person("zoe", "en", api.RoTranslator), person("zoe", "de", api.RoReviewer), lock("zoe", "en", 0))
	a.Version = 9
	a.Cells[2] = []api.Cell{with(a.Cells[2][0], "x|ann"), draft("<b>z</b>", "ann", 9)}
	a.Shelf = []api.Shelved{shelved("aa", "x", "y", "ann", "bob", 1), shelved("de", "x", "x0001", "ann", "bob", 0), shelved("fr", "x", "y", "ann", "bob", 1)}
	b := ran(two(), language("en"), person("ann", "en", api.RoReviewer), person("zoe", "en", api.RoTranslator), person("zoe", "de", api.RoTranslator))
	b.Version = 8
	b.Cells[1][0] = draft("x", "ann", 8)
	b.Shelf = []api.Shelved{shelved("de", "x", "x0001", "ann", "bob", 0), shelved("de", "x", "x0001", "ann", "bob", 1), shelved("fr", "a", "y", "ann", "bob", 1)}

	want := ran(two(), language("aa"), language("en"), person("ann", "en", api.RoReviewer), person("zoe", "en", api.RoTranslator),
		person("zoe", "de", api.RoTranslator), person("zoe", "de", api.RoReviewer))
	want.Version = 9
	// What one session has as the text is not among the Others any more.
	want.Cells[2] = []api.Cell{by("zoe", draft("x", "ann", 8)), draft("<b>z</b>", "ann", 9)}
	want.Shelf = []api.Shelved{
		shelved("aa", "x", "y", "ann", "bob", 1), shelved("de", "x", "x0001", "ann", "bob", 0), shelved("de", "x", "x0001", "ann", "bob", 1),
		shelved("fr", "a", "y", "ann", "bob", 1), shelved("fr", "x", "y", "ann", "bob", 1),
	}
	out, l := merged(t, base, a, b)
	equal(t, "lists", out, want)
	if len(l) > 0 {
		t.Errorf("conflicts %v", l)
	}
	// A language that only the base has is gone; where a session does not have it, its cells are empty there.
	base = ran(two(), language("en"))
	base.Cells[1] = []api.Cell{draft("1", "ann", 7), draft("<b>2</b>", "ann", 7)}
	out, _ = merged(t, base, two(), two())
	equal(t, "only the base has it", out, two())
	a = copied(base)
	a.Cells[1][1] = draft("<b>3</b>", "ann", 7)
	out, l = merged(t, base, a, two())
	want = copied(a)
	want.Cells[1][0] = api.Cell{}
	equal(t, "one session does not have it", out, want)
	if !slices.Equal(l, []api.Conflict{{Lang: "en", Segment: 1, Kept: "<b>3</b>"}}) {
		t.Errorf("conflicts %v", l)
	}
}

func TestMergeSources(t *testing.T) {
	// Segments A, B and C; the cells of a base, of which a changed the source, and b the cells.
	base := made("p A\np B\np C\n")
	base = ran(base, slices.Concat(accepted("de", 0, "a"), accepted("de", 1, "b"), wrote("ann", "fr", 1, "b"))...)
	a := ran(base, source("p X\np B2\np A\nraw x\n"))
	b := ran(base, slices.Concat(accepted("de", 2, "c"), accepted("fr", 0, "a2"), []api.Event{reopen("bob", "de", 1), approve("cy", "de", 1), lock("ann", "fr", 1)})...)
	out, l := merged(t, base, a, b)
	want := ran(b, source("p X\np B2\np A\nraw x\n"))
	want.Shelf = append(want.Shelf, a.Shelf...)
	slices.SortFunc(want.Shelf, plainShelved)
	want.Shelf = slices.Compact(want.Shelf)
	if len(l) > 0 {
		t.Errorf("conflicts %v", l)
	}
	equal(t, "one changed the source", out, want)

	// Both changed it to the same one, and worked on.
	b = ran(b, source("p X\np B2\np A\nraw x\n"), lock("cy", "fr", 1))
	out, l = merged(t, base, a, b)
	want = copied(b)
	want.Shelf = out.Shelf
	equal(t, "both changed it to the same one", out, want)
	if len(l) > 0 || len(out.Shelf) != 5 {
		t.Errorf("conflicts %v, shelf %+v", l, out.Shelf)
	}

	c := ran(base, source("p X\n"))
	refuses(t, "both changed it to different ones", base, a, c, api.ErrClash)
	// Back at the base's source, one has not changed it.
	c = ran(c, source("p A\np B\np C\n"))
	out, _ = merged(t, base, a, c)
	if out.Version != 2 || !sameDocument(out.Source, a.Source) {
		t.Errorf("version %d, %+v", out.Version, out.Source)
	}
	// Sources differ though all segments have the same forms.
	d := ran(base, source("h1 A\np B\np C\n"))
	out, _ = merged(t, base, base, d)
	equal(t, "other blocks", out, d)
	refuses(t, "other blocks", base, a, d, api.ErrClash)
}

func TestMergeItself(t *testing.T) {
	a := ran(two(), slices.Concat(accepted("de", 0, "1"), wrote("cy", "fr", 1, "<b></b>"), []api.Event{lock("ann", "fr", 0), language("en")})...)
	for name, x := range map[string][3]api.Office{
		"with itself":          {two(), a, a},
		"with the base":        {two(), a, two()},
		"its own base":         {a, a, a},
		"nothing":              {{}, {}, {}},
		"with an earlier base": {made("p One. <b>Two</b>\n"), a, a},
	} {
		out, l := merged(t, x[0], x[1], x[2])
		equal(t, name, out, x[1])
		if len(l) > 0 {
			t.Errorf("%s: conflicts %v", name, l)
		}
	}
	// An empty session has no languages; what the other one has is in what comes.
	bare, _ := office.New("p One. <b>Two</b>\n", stops())
	out, l := merged(t, bare, bare, a)
	equal(t, "with an empty session", out, a)
	if len(l) > 0 {
		t.Errorf("conflicts %v", l)
	}
	rules := []api.Break{}
	none, e := office.New("", rules)
	if out, _, f := office.Merge(none, none, api.Office{}); e != api.OK || f != api.OK || !same(out, none) {
		t.Errorf("empty offices: %+v, errors %d, %d", out, e, f)
	}
}

func TestMergeErrors(t *testing.T) {
	twisted := func(change func(o *api.Office)) api.Office {
		o := two()
		change(&o)
		return o
	}
	late := twisted(func(o *api.Office) { o.Version = 8 })
	early := twisted(func(o *api.Office) { o.Version = 6 })
	ruled := twisted(func(o *api.Office) { o.Rules = append(o.Rules, api.Break{Before: "x", Break: true}) })
	moved := ran(two(), source("p One. Three\n"))
	moved2 := ran(two(), source("p One. Four\n"))
	badName := twisted(func(o *api.Office) { o.Langs[0] = "D" })
	badText := twisted(func(o *api.Office) { o.Cells[0][0] = draft("<", "ann", 0) })
	badRole := twisted(func(o *api.Office) { o.People[0].Lang = "x" })
	for _, x := range []struct {
		name       string
		base, a, b api.Office
		e          api.Errno
	}{
		{"base", badName, badText, badRole, api.ErrName},
		{"a", late, badText, badRole, api.ErrForm},
		{"b", late, early, badRole, api.ErrNone},
		{"a is earlier", late, early, late, api.ErrArg},
		{"b is earlier", late, late, early, api.ErrArg},
		{"a has other rules", two(), ruled, two(), api.ErrArg},
		{"b has other rules", two(), two(), ruled, api.ErrArg},
		{"base has other rules", ruled, two(), two(), api.ErrArg},
		{"all sources differ, with other rules", ruled, moved, moved2, api.ErrArg},
		{"all sources differ", two(), moved, moved2, api.ErrClash},
	} {
		refuses(t, x.name, x.base, x.a, x.b, x.e)
	}
	out, _ := merged(t, early, late, two())
	equal(t, "versions", out, late)
}

func TestMergeLimits(t *testing.T) {
	base := made("p A\n")
	add := func(o api.Office, langs ...string) api.Office {
		for _, lang := range langs {
			o = ran(o, language(lang))
		}
		return o
	}
	a, b := add(base, "a", "b", "c"), add(base, "c", "g", "h", "i")
	out, _ := merged(t, base, a, b)
	if len(out.Langs) != api.MaxLangs {
		t.Errorf("%v", out.Langs)
	}
	refuses(t, "languages", base, a, add(b, "z"), api.ErrLimit)

	people := func(o api.Office, letter string, n int) api.Office {
		for i := range n {
			o = ran(o, person(letter+string(rune('a'+i)), "de", api.RoReviewer))
		}
		return o
	}
	a, b = people(people(base, "x", 20), "y", 10), people(people(base, "x", 20), "z", 26)
	out, _ = merged(t, base, a, b)
	if len(out.People) != api.MaxPeople {
		t.Errorf("%d people", len(out.People))
	}
	refuses(t, "people", base, people(a, "w", 1), b, api.ErrLimit)

	a, b = copied(base), copied(base)
	all := shelf("fr", "x", api.MaxShelf+1)
	a.Shelf, b.Shelf = all[:700], all[300:api.MaxShelf]
	out, _ = merged(t, base, a, b)
	if len(out.Shelf) != api.MaxShelf {
		t.Errorf("%d texts on the shelf", len(out.Shelf))
	}
	b.Shelf = all[300:]
	refuses(t, "shelf", base, a, b, api.ErrLimit)
	// An update to the merged source puts one too many there.
	a.Shelf, b.Shelf = nil, all[:api.MaxShelf]
	b.Cells[0][0] = approved("a", "ann", "bob", 0)
	merged(t, base, a, b)
	a = ran(a, source("p B\n"))
	refuses(t, "shelf of an update", base, a, b, api.ErrLimit)
	b.Shelf = all[:api.MaxShelf-1]
	out, _ = merged(t, base, a, b)
	if len(out.Shelf) != api.MaxShelf {
		t.Errorf("%d texts on the shelf", len(out.Shelf))
	}
	// So does one of the base, though it is not in what comes.
	base.Shelf, base.Cells[0][0] = all[:api.MaxShelf], approved("a", "ann", "bob", 0)
	b.Shelf, b.Cells[0][0] = nil, api.Cell{}
	refuses(t, "shelf of the base's update", base, a, b, api.ErrLimit)
	base.Cells[0][0] = api.Cell{}
	merged(t, base, a, b)

	// The version is not counted.
	base.Version, a.Version, b.Version = api.MaxVersion, api.MaxVersion, api.MaxVersion
	out, _ = merged(t, base, a, b)
	if out.Version != api.MaxVersion {
		t.Errorf("version %d", out.Version)
	}
}

func TestMergeMemory(t *testing.T) {
	base := ran(rich(), language("en"))
	a, b := ran(base, source("p <b>One. Three</b>\nraw x. y\nli {n}\n")), ran(base, language("es"))
	b.Cells[0][1] = with(draft("<+b>x</b>", "cy", 1), "|ann")
	before := [3]api.Office{copied(base), copied(a), copied(b)}
	out, _, e := office.Merge(base, a, b)
	if e != api.OK {
		t.Fatalf("error %d", e)
	}
	kept := copied(out)
	spoil(out)
	for i, o := range []api.Office{base, a, b} {
		equal(t, "an argument", o, before[i])
	}
	again, _, _ := office.Merge(base, a, b)
	for _, o := range []api.Office{base, a, b} {
		spoil(o)
	}
	equal(t, "again", again, kept)
}

package morph_test

import (
	"slices"
	"strings"
	"testing"

	"truchman/api"
	"truchman/morph"
)

// P2.5, examples of the chapter.
func TestFormsOfExample(t *testing.T) {
	for _, x := range []struct {
		entry, slot       int
		steps, form, bund string
	}{
		{city, 0, "city city city", "city", "num=sg"},
		{city, 1, "city+s citi+es citi+es", "cities", "num=pl"},
		{car, 1, "car+s car+s car+s", "cars", "num=pl"},
		{bus, 0, "bus bus bus", "bus", "num=sg"},
		{bus, 1, "bus+s bus+s bus+s", "buses", "num=pl"},
		{plan, 0, "plan plan plan", "plan", ""},
		{plan, 1, "plan+ed plan+ed plann+ed", "planned", ""},
	} {
		if got, e := morph.Steps(given(), x.entry, x.slot); e != api.OK || strings.Join(got, " ") != x.steps {
			t.Errorf("Steps of %d at %d: %q, error %d", x.entry, x.slot, got, e)
		}
		if got, e := morph.Form(given(), x.entry, x.slot); e != api.OK || got != x.form {
			t.Errorf("Form of %d at %d: %q, error %d", x.entry, x.slot, got, e)
		}
		if got, e := morph.Feats(given(), x.entry, x.slot); e != api.OK || !slices.Equal(got, b(x.bund)) {
			t.Errorf("Feats of %d at %d: %v, error %d", x.entry, x.slot, got, e)
		}
	}
	if got, e := morph.Forms(given(), bus); e != api.OK || strings.Join(got, " ") != "bus buses" {
		t.Error(got, e)
	}
}

// P2.5: Feats is the union of the features of the entry and the slot, by increasing Name.
func TestFeatsOfBoth(t *testing.T) {
	l := sound()
	l.Entries[0].Feats = b("case=acc")
	for _, x := range []struct {
		entry, slot int
		want        string
	}{{0, 0, "case=acc num=sg"}, {0, 1, "case=acc num=pl"}, {1, 0, "case=nom"}, {1, 1, "case=nom num=pl"}} {
		if got, e := morph.Feats(l, x.entry, x.slot); e != api.OK || !slices.Equal(got, b(x.want)) {
			t.Errorf("%d at %d: %v, error %d", x.entry, x.slot, got, e)
		}
	}
}

// noPlaces are entries and slots that L does not have.
var noPlaces = [][2]int{{-1, 0}, {4, 0}, {0, -1}, {0, 2}, {3, 2}, {-1 << 63, 0}, {1<<63 - 1, 1}, {0, 1<<63 - 1}, {0, -1 << 63}}

// P2.5: what there is not, and the lexicon's error ahead of that.
func TestNoPlaces(t *testing.T) {
	for _, p := range noPlaces {
		for _, x := range []struct {
			l api.Lexicon
			e api.Errno
		}{{given(), api.ErrNone}, {crooked(), crookedIs}} {
			if got, e := morph.Feats(x.l, p[0], p[1]); e != x.e || len(got) > 0 {
				t.Errorf("Feats at %v: %v, error %d", p, got, e)
			}
			if got, e := morph.Steps(x.l, p[0], p[1]); e != x.e || len(got) > 0 {
				t.Errorf("Steps at %v: %v, error %d", p, got, e)
			}
			if got, e := morph.Form(x.l, p[0], p[1]); e != x.e || got != "" {
				t.Errorf("Form at %v: %v, error %d", p, got, e)
			}
		}
	}
	for _, n := range []int{-1, 4, 1<<63 - 1, -1 << 63} {
		if got, e := morph.Forms(given(), n); e != api.ErrNone || len(got) > 0 {
			t.Errorf("Forms of %d: %v, error %d", n, got, e)
		}
		if got, e := morph.Forms(crooked(), n); e != crookedIs || len(got) > 0 {
			t.Errorf("Forms of %d: %v, error %d", n, got, e)
		}
	}
	for _, l := range []api.Lexicon{crooked()} {
		if got, e := morph.Forms(l, 0); e != crookedIs || len(got) > 0 {
			t.Error(got, e)
		}
		if got, e := morph.Form(l, 0, 0); e != crookedIs || got != "" {
			t.Error(got, e)
		}
	}
}

// P2.5: the underlying form.
func TestUnderlying(t *testing.T) {
	for _, x := range []struct {
		lemma      string
		slot       api.Slot
		want, form string
	}{
		{"do", api.Slot{}, "do", "do"},
		{"do", api.Slot{Pre: "un"}, "un+do", "undo"},
		{"do", api.Slot{Add: "ing"}, "do+ing", "doing"},
		{"do", api.Slot{Pre: "un", Add: "ing"}, "un+do+ing", "undoing"},
		{"use", api.Slot{Cut: 1, Add: "ing"}, "us+ing", "using"},
		{"use", api.Slot{Cut: 1}, "us", "us"},
		{"use", api.Slot{Cut: 3, Add: "is"}, "+is", "is"},
		{"use", api.Slot{Cut: 3, Pre: "was"}, "was+", "was"},
		{"use", api.Slot{Cut: 3, Pre: "a", Add: "b"}, "a++b", "ab"},
	} {
		l := simple([]api.Slot{x.slot}, x.lemma)
		if got, e := morph.Steps(l, 0, 0); e != api.OK || !slices.Equal(got, []string{x.want}) {
			t.Errorf("Steps of %s at %v: %q, error %d", x.lemma, x.slot, got, e)
		}
		if got, e := morph.Form(l, 0, 0); e != api.OK || got != x.form {
			t.Errorf("Form of %s at %v: %q, error %d", x.lemma, x.slot, got, e)
		}
	}
}

// P2.5: a lemma with too few letters has no underlying form; one with just enough may be left without letters.
func TestCutAway(t *testing.T) {
	l := simple([]api.Slot{{Cut: 3}, {Cut: 4, Add: "x"}, {Cut: 24, Pre: "x"}}, "use")
	if got, e := morph.Steps(l, 0, 0); e != api.OK || !slices.Equal(got, []string{""}) {
		t.Errorf("%q, error %d", got, e)
	}
	for slot := range 3 {
		if got, e := morph.Steps(l, 0, slot); slot > 0 && (e != api.ErrNone || len(got) > 0) {
			t.Errorf("slot %d: %q, error %d", slot, got, e)
		}
		if got, e := morph.Form(l, 0, slot); e != api.ErrNone || got != "" {
			t.Errorf("slot %d: %q, error %d", slot, got, e)
		}
	}
	if got, e := morph.Forms(l, 0); e != api.OK || !slices.Equal(got, []string{"", "", ""}) {
		t.Errorf("%q, error %d", got, e)
	}
	l.Entries[0].Forms = []api.Irregular{{Slot: 1, Word: "went"}}
	if got, e := morph.Forms(l, 0); e != api.OK || !slices.Equal(got, []string{"", "went", ""}) {
		t.Errorf("%q, error %d", got, e)
	}
	if got, e := morph.Steps(l, 0, 1); e != api.ErrNone || len(got) > 0 {
		t.Errorf("%q, error %d", got, e)
	}
}

// P2.5: irregular forms take the place of the others as they are, but not in Steps.
func TestIrregular(t *testing.T) {
	l := given()
	l.Entries[city].Forms = []api.Irregular{{Slot: 1, Word: ""}, {Slot: 0, Word: "ny"}}
	l.Spells = append(l.Spells, api.Spell{From: "n", To: "m"})
	if got, e := morph.Forms(l, city); e != api.OK || !slices.Equal(got, []string{"ny", ""}) {
		t.Errorf("%q, error %d", got, e)
	}
	if got, e := morph.Form(l, city, 1); e != api.ErrNone || got != "" {
		t.Errorf("%q, error %d", got, e)
	}
	if got, e := morph.Steps(l, city, 1); e != api.OK || strings.Join(got, " ") != "city+s citi+es citi+es citi+es" {
		t.Errorf("%q, error %d", got, e)
	}
}

// P2.5: a form has 1 to MaxWord letters; a + is none.
func TestLetterCount(t *testing.T) {
	slots := []api.Slot{{Pre: "a", Add: "b"}, {Pre: "a", Add: "bc"}, {Cut: 1, Add: "b"}}
	l := simple(slots, strings.Repeat("x", 22))
	l.Spells = []api.Spell{{From: "b", To: "+++b"}}
	if got, e := morph.Form(l, 0, 0); e != api.OK || got != "a"+strings.Repeat("x", 22)+"b" {
		t.Errorf("%q, error %d", got, e)
	}
	if got, e := morph.Form(l, 0, 1); e != api.ErrNone || got != "" {
		t.Errorf("%q, error %d", got, e)
	}
	if got, e := morph.Steps(l, 0, 1); e != api.OK || len(got) != 2 || got[1] != "a+"+strings.Repeat("x", 22)+"++++bc" {
		t.Errorf("%q, error %d", got, e)
	}
	l.Spells = []api.Spell{{From: "x"}, {From: "a"}, {From: "b"}}
	if got, e := morph.Forms(l, 0); e != api.OK || !slices.Equal(got, []string{"", "c", ""}) {
		t.Errorf("%q, error %d", got, e)
	}
	if got, e := morph.Steps(l, 0, 0); e != api.OK || got[3] != "++" {
		t.Errorf("%q, error %d", got, e)
	}
}

// P2.5: no string has more than 512 symbols, even if later rules would make it shorter.
func TestManySymbols(t *testing.T) {
	double := api.Spell{From: "a", To: "aa"}
	l := simple([]api.Slot{{}}, "aa")
	l.Spells = append(slices.Repeat([]api.Spell{double}, 8), api.Spell{From: "aaaaaa"})
	if got, e := morph.Steps(l, 0, 0); e != api.OK || len(got) != 10 || len(got[8]) != 512 || got[9] != "aa" {
		t.Errorf("%q, error %d", got, e)
	}
	if got, e := morph.Form(l, 0, 0); e != api.OK || got != "aa" {
		t.Errorf("%q, error %d", got, e)
	}
	l.Entries[0].Lemma = "aab"
	if got, e := morph.Steps(l, 0, 0); e != api.ErrNone || len(got) > 0 {
		t.Errorf("%q, error %d", got, e)
	}
	if got, e := morph.Form(l, 0, 0); e != api.ErrNone || got != "" {
		t.Errorf("%q, error %d", got, e)
	}
	if got, e := morph.Forms(l, 0); e != api.OK || !slices.Equal(got, []string{""}) {
		t.Errorf("%q, error %d", got, e)
	}
}

// P2.5: one spelling rule and a string.
func TestSpell(t *testing.T) {
	for _, x := range []struct{ from, to, left, right, s, want string }{
		{"a", "b", "", "", "banana", "bbnbnb"},
		{"a", "", "", "", "banana", "bnn"},
		{"+", "", "", "", "a+b++", "ab"},
		{"an", "x", "", "", "banana", "bxxa"},
		{"aa", "b", "", "", "aaaaa", "bba"},
		{"a", "aa", "", "", "aba", "aabaa"},
		{"ab", "a", "", "", "abb", "ab"},
		{"a", "b", "", "", "", ""},
		{"abc", "x", "", "", "ab", "ab"},
		// Left and Right are matched with what the rule is applied to.
		{"a", "b", "a", "", "aaa", "abb"},
		{"a", "b", "b", "", "baa", "bba"},
		{"a", "b", "", "a", "aaa", "bba"},
		{"a", "b", "", "b", "aab", "abb"},
		{"ab", "x", "b", "", "ababab", "abxx"},
		// The symbol at the place comes last in Left, and first in Right.
		{"a", "x", "bc", "", "bcacba", "bcxcba"},
		{"a", "x", "", "bc", "abcacb", "xbcacb"},
		// The ends.
		{"a", "x", "#", "", "aaa", "xaa"},
		{"a", "x", "", "#", "aaa", "aax"},
		{"a", "x", "#", "#", "a", "x"},
		{"a", "x", "#", "#", "aa", "aa"},
		{"a", "x", "#b", "", "baba", "bxba"},
		{"a", "x", "", "b#", "abab", "abxb"},
		{"a", "x", "##", "", "aa", "aa"},
		{"a", "x", "", "##", "aa", "aa"},
		{"a", "x", "a#", "", "aa", "aa"},
		{"a", "x", "", "#a", "aa", "aa"},
		{"a", "x", "b#", "", "ba", "ba"},
		{"abc", "x", "#", "#", "abc", "x"},
		// Vowels and consonants are letters.
		{"x", "", "V", "", "axbx+xexx", "abx+xex"},
		{"x", "", "C", "", "axbx+xyx", "axb+xy"},
		{"x", "", "", "V", "xaxbx+x", "axbx+x"},
		{"x", "", "", "C", "xaxbx+xb", "xabx+b"},
		{"a", "x", "V", "", "a", "a"},
		{"a", "x", "C", "", "a", "a"},
		{"a", "x", "", "V", "a", "a"},
		{"a", "x", "", "C", "a", "a"},
		{"b", "", "V+", "C", "a+bcu+bab", "a+cu+bab"},
		{"b", "", "#CV", "", "tabtab", "tatab"},
		{"b", "", "", "VC#", "bobob", "boob"},
		{"s", "es", "+", "", "bus+s", "bus+es"},
		{"s", "z", "", "+", "bus+s", "buz+s"},
		{"a", "x", "b+", "+b", "b+a+b+a+b", "b+x+b+x+b"},
	} {
		l := api.Lexicon{Vowels: "aeiou", Spells: []api.Spell{{From: "q"}, {From: x.from, To: x.to, Left: x.left, Right: x.right}}}
		if got, e := morph.Spell(l, 1, x.s); e != api.OK || got != x.want {
			t.Errorf("%v of %q: %q, error %d, want %q", l.Spells[1], x.s, got, e, x.want)
		}
	}
}

// P2.5: which letters are vowels, the lexicon says.
func TestVowels(t *testing.T) {
	l := api.Lexicon{Vowels: "yz", Spells: []api.Spell{{From: "x", Left: "V"}, {From: "x", Left: "C"}}}
	for rule, want := range []string{"axyz", "ayxzx"} {
		if got, e := morph.Spell(l, rule, "axyxzx"); e != api.OK || got != want {
			t.Errorf("rule %d: %q, error %d", rule, got, e)
		}
	}
	l.Vowels = ""
	if got, e := morph.Spell(l, 0, "axex"); e != api.OK || got != "axex" {
		t.Errorf("%q, error %d", got, e)
	}
	if got, e := morph.Spell(l, 1, "axex"); e != api.OK || got != "ae" {
		t.Errorf("%q, error %d", got, e)
	}
}

// P2.5: the errors of Spell, in their order.
func TestSpellErrors(t *testing.T) {
	l := api.Lexicon{Spells: []api.Spell{{From: "a", To: "aa"}, {From: "b", To: ""}}}
	a := func(n int) string { return strings.Repeat("a", n) }
	for _, x := range []struct {
		l    api.Lexicon
		rule int
		s    string
		e    api.Errno
	}{
		{crooked(), 9, "A", crookedIs},
		{l, -1, "A", api.ErrNone}, {l, 2, "A", api.ErrNone}, {l, 1<<63 - 1, "a", api.ErrNone}, {api.Lexicon{}, 0, "a", api.ErrNone},
		{l, 0, "A", api.ErrArg}, {l, 0, "a#", api.ErrArg}, {l, 0, "V", api.ErrArg}, {l, 0, "a b", api.ErrArg}, {l, 0, "é", api.ErrArg},
		{l, 1, a(600) + "1", api.ErrArg},
		{l, 0, a(256), api.OK}, {l, 0, a(257), api.ErrLimit},
		{l, 1, a(512), api.OK}, {l, 1, a(513), api.ErrLimit}, {l, 1, "b" + a(512), api.ErrLimit},
		{l, 0, a(1) + strings.Repeat("+", 510), api.OK}, {l, 0, a(1) + strings.Repeat("+", 511), api.ErrLimit},
	} {
		got, e := morph.Spell(x.l, x.rule, x.s)
		if e != x.e || e != api.OK && got != "" {
			t.Errorf("Spell by %d of %q: %q, error %d, want %d", x.rule, x.s, got, e, x.e)
		}
	}
}

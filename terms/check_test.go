package terms_test

import (
	"strconv"
	"strings"
	"testing"

	"truchman/api"
	"truchman/terms"
)

// sound is a valid termbase with several of everything; the second concept is the one that is spoiled.
func sound() api.Termbase {
	return api.Termbase{
		Domains: []string{"it", "law", "Spare_1"},
		Concepts: []api.Concept{
			{Name: "empty", Domain: "law"},
			{Name: "net", Domain: "it", Terms: []api.TermEntry{
				{Lang: "en", Status: api.TsPreferred, Elements: []string{"net", "work"}},
				{Lang: "en", Status: api.TsAllowed, Elements: []string{"net+work", "=!"}},
				{Lang: "de", Status: api.TsForbidden, Elements: []string{"=Netz", "=-", "=Werk", "e+i+n"}},
			}},
			{Name: "act", Domain: "law", Terms: []api.TermEntry{{Lang: "en", Status: api.TsForbidden, Elements: []string{"act"}}}},
		},
	}
}

// fault is something that makes a sound termbase invalid.
type fault struct {
	name  string
	e     api.Errno
	spoil func(b *api.Termbase)
}

// pad puts more values behind a list until it has n.
func pad[T any](l []T, n int, one func(i int) T) []T {
	for len(l) < n {
		l = append(l, one(len(l)))
	}
	return l
}

func numbered(i int) string { return "x" + strconv.Itoa(i) }

func plainConcept(i int) api.Concept { return api.Concept{Name: numbered(i), Domain: "it"} }

func plainTerm(i int) api.TermEntry {
	return api.TermEntry{Lang: "en", Status: api.TsAllowed, Elements: []string{"=" + numbered(i)}}
}

// noNames are strings that are no names.
var noNames = []string{"", "1", "_a", "a-b", "a b", "é", "aé", "\xff", strings.Repeat("a", 13)}

// noElements are strings that are no elements.
var noElements = []string{
	"", "=", "= ", "=a b", "=..", "=a.", "=\t", "=\xff", "=a\xff", "=<b>", "=</b>", "=<b/>", "=<+b>", "=</+b>", "=\x7f",
	"+", "a+", "+a", "a++b", "a+b+c+d", "A", "aB", "a1", "a b", "é", "-", "a=b", "a+=b", "a+B", "\xff", " a", "a ",
	strings.Repeat("a", 25), strings.Repeat("a", 25) + "+b", "b+" + strings.Repeat("a", 25), strings.Repeat("a+", 1000) + "a",
}

// faults are all errors of a termbase, in the order of the document. A fault that stands ahead of others makes room for itself.
func faults() []fault {
	list := []fault{{"too many domains", api.ErrLimit, func(b *api.Termbase) { b.Domains = pad(b.Domains, 33, numbered) }}}
	for _, s := range noNames {
		list = append(list, fault{"the domain " + s, api.ErrName, func(b *api.Termbase) { b.Domains[2] = s }})
	}
	list = append(list,
		fault{"a domain twice", api.ErrTwice, func(b *api.Termbase) { b.Domains[2] = "it" }},
		fault{"too many concepts", api.ErrLimit, func(b *api.Termbase) { b.Concepts = pad(b.Concepts, 65, plainConcept) }},
	)
	second := func(b *api.Termbase) *api.Concept { return &b.Concepts[1] }
	for _, s := range noNames {
		list = append(list, fault{"the concept " + s, api.ErrName, func(b *api.Termbase) { second(b).Name = s }})
	}
	list = append(list, fault{"a concept twice, in another domain", api.ErrTwice, func(b *api.Termbase) { second(b).Name = "empty" }})
	for _, s := range []string{"", "net", "en", "IT", "it ", "i"} {
		list = append(list, fault{"a concept in the domain " + s, api.ErrNone, func(b *api.Termbase) { second(b).Domain = s }})
	}
	list = append(list, fault{"too many terms", api.ErrLimit, func(b *api.Termbase) { second(b).Terms = pad(second(b).Terms, 17, plainTerm) }})
	return append(list, termFaults()...)
}

// termFaults are the errors of a term.
func termFaults() []fault {
	of := func(name string, e api.Errno, spoil func(t *api.TermEntry)) fault {
		return fault{name, e, func(b *api.Termbase) { spoil(&b.Concepts[1].Terms[1]) }}
	}
	var list []fault
	for _, s := range noNames {
		list = append(list, of("the language "+s, api.ErrName, func(t *api.TermEntry) { t.Lang = s }))
	}
	list = append(list,
		of("no status", api.ErrArg, func(t *api.TermEntry) { t.Status = api.TsNone }),
		of("a status that there is not", api.ErrArg, func(t *api.TermEntry) { t.Status = 4 }),
		of("the greatest status", api.ErrArg, func(t *api.TermEntry) { t.Status = 255 }),
		of("too many elements", api.ErrLimit, func(t *api.TermEntry) { t.Elements = pad(t.Elements, 5, func(int) string { return "a" }) }),
		of("no elements", api.ErrArg, func(t *api.TermEntry) { t.Elements = nil }),
		of("an empty list of elements", api.ErrArg, func(t *api.TermEntry) { t.Elements = []string{} }),
	)
	for _, s := range noElements {
		list = append(list, of("the element "+s, api.ErrForm, func(t *api.TermEntry) { t.Elements = []string{"a", s} }))
	}
	return append(list, of("a term twice, with another status", api.ErrTwice, func(t *api.TermEntry) { t.Elements = []string{"net", "work"} }))
}

// P7.1: each error by itself.
func TestFaults(t *testing.T) {
	for _, b := range []api.Termbase{sound(), base(givenBase), {}} {
		if e := terms.Check(b); e != api.OK {
			t.Errorf("%v: error %d", b, e)
		}
	}
	for _, f := range faults() {
		b := sound()
		f.spoil(&b)
		if e := terms.Check(b); e != f.e {
			t.Errorf("%s: error %d, want %d", f.name, e, f.e)
		}
		if text, e := terms.Print(b); e != f.e || text != "" {
			t.Errorf("Print, %s: %q, error %d, want %d", f.name, text, e, f.e)
		}
	}
}

// P7.1 and R1: of two errors the one that the document names first.
func TestFaultsInOrder(t *testing.T) {
	list := faults()
	for i, first := range list {
		for _, later := range list[i+1:] {
			b := sound()
			later.spoil(&b)
			first.spoil(&b)
			if e := terms.Check(b); e != first.e {
				t.Errorf("%s, and %s: error %d, want %d", first.name, later.name, e, first.e)
			}
		}
	}
}

// P7.1 and R1: elements of lists are examined one by one: an error of the first one comes ahead of one of the second.
func TestElementsInOrder(t *testing.T) {
	entry := func(lang string, status api.TermStatus, elements ...string) api.TermEntry {
		return api.TermEntry{Lang: lang, Status: status, Elements: elements}
	}
	for _, x := range []struct {
		name  string
		e     api.Errno
		spoil func(b *api.Termbase)
	}{
		{"domains", api.ErrTwice, func(b *api.Termbase) { b.Domains = []string{"it", "law", "it", "1"} }},
		{"domains that are no names", api.ErrName, func(b *api.Termbase) { b.Domains = []string{"1", "1"} }},
		{"concepts", api.ErrNone, func(b *api.Termbase) { b.Concepts[0].Domain, b.Concepts[1].Name = "x", "1" }},
		{"terms of concepts", api.ErrForm, func(b *api.Termbase) {
			b.Concepts[1].Terms[2].Elements[3], b.Concepts[2].Name = "E", "net"
		}},
		{"terms", api.ErrTwice, func(b *api.Termbase) {
			b.Concepts[1].Terms = []api.TermEntry{entry("en", 1, "a"), entry("en", 2, "a"), entry("1", 0)}
		}},
		{"terms, the first one being spoiled", api.ErrArg, func(b *api.Termbase) {
			b.Concepts[1].Terms = []api.TermEntry{entry("en", 1), entry("en", 1), entry("1", 0)}
		}},
	} {
		b := sound()
		x.spoil(&b)
		if e := terms.Check(b); e != x.e {
			t.Errorf("%s: error %d, want %d", x.name, e, x.e)
		}
	}
}

// P7.1: limits that are reached, and what may stand twice.
func TestAllowed(t *testing.T) {
	for name, change := range map[string]func(b *api.Termbase){
		"domains":          func(b *api.Termbase) { b.Domains = pad(b.Domains, 32, numbered) },
		"long names":       func(b *api.Termbase) { b.Domains[2] = "A23456789_zZ" },
		"concepts":         func(b *api.Termbase) { b.Concepts = pad(b.Concepts, 64, plainConcept) },
		"terms":            func(b *api.Termbase) { b.Concepts[1].Terms = pad(b.Concepts[1].Terms, 16, plainTerm) },
		"one name for all": func(b *api.Termbase) { b.Concepts[0].Name, b.Concepts[1].Terms[0].Lang = "law", "law" },
		"another language": func(b *api.Termbase) { b.Concepts[1].Terms[2].Elements = b.Concepts[1].Terms[0].Elements },
		"another concept":  func(b *api.Termbase) { b.Concepts[2].Terms[0] = b.Concepts[1].Terms[0] },
		"elements twice":   func(b *api.Termbase) { b.Concepts[1].Terms[0].Elements = fields("a a a a") },
		"a part of another": func(b *api.Termbase) {
			b.Concepts[1].Terms[1].Elements = []string{"net"}
		},
	} {
		b := sound()
		change(&b)
		if e := terms.Check(b); e != api.OK {
			t.Errorf("%s: error %d", name, e)
		}
	}
	for _, s := range []string{
		"a", strings.Repeat("a", 24), "a+b", "a+b+c", strings.TrimSuffix(strings.Repeat(strings.Repeat("z", 24)+"+", 3), "+"),
		"=a", "=A", "=A4", "==", "=+", "=.", "=<", "={", "=\\", "=-", "=7", "={n}", "={a-1}", "=é", "=日本", "=\ufffd", "=" + strings.Repeat("a", 1000), "=\u0080", "=\u00a0",
	} {
		b := concepts("en p a")
		b.Concepts[0].Terms[0].Elements[0] = s
		if e := terms.Check(b); e != api.OK {
			t.Errorf("the element %q: error %d", s, e)
		}
	}
}

// P7.1: termbases are the same just if they are so in all fields.
func TestSame(t *testing.T) {
	list := []api.Termbase{sound(), base(givenBase), {}, {Domains: []string{"a"}}, {Concepts: []api.Concept{{}}}}
	for _, f := range faults() {
		b := sound()
		f.spoil(&b)
		list = append(list, b)
	}
	for _, change := range []func(b *api.Termbase){
		func(b *api.Termbase) { b.Domains[0], b.Domains[1] = b.Domains[1], b.Domains[0] },
		func(b *api.Termbase) { b.Domains = b.Domains[:2] },
		func(b *api.Termbase) { b.Concepts = b.Concepts[:2] },
		func(b *api.Termbase) { b.Concepts[0], b.Concepts[1] = b.Concepts[1], b.Concepts[0] },
		func(b *api.Termbase) { b.Concepts[2].Name = "Act" },
		func(b *api.Termbase) { b.Concepts[2].Domain = "it" },
		func(b *api.Termbase) { b.Concepts[1].Terms = b.Concepts[1].Terms[:2] },
		func(b *api.Termbase) { b.Concepts[2].Terms[0].Lang = "de" },
		func(b *api.Termbase) { b.Concepts[2].Terms[0].Status = api.TsAllowed },
		func(b *api.Termbase) { b.Concepts[1].Terms[0].Elements = fields("work net") },
		func(b *api.Termbase) { b.Concepts[1].Terms[0].Elements = fields("net") },
		func(b *api.Termbase) { b.Concepts[1].Terms[0].Elements = fields("net work x") },
	} {
		b := sound()
		change(&b)
		list = append(list, b)
	}
	for _, x := range list {
		for _, y := range list {
			if got := terms.Same(x, y); got != same(x, y) {
				t.Errorf("Same(%v, %v): %v", x, y, got)
			}
		}
	}
	empty := api.Termbase{Domains: []string{}, Concepts: []api.Concept{}}
	if !terms.Same(empty, api.Termbase{}) || !terms.Same(api.Termbase{}, empty) {
		t.Error("an empty list is no nil list")
	}
	x, y := sound(), sound()
	x.Concepts[0].Terms, y.Concepts[2].Terms[0].Elements, x.Concepts[2].Terms[0].Elements = []api.TermEntry{}, nil, []string{}
	if !terms.Same(x, y) {
		t.Error("an empty list is no nil list")
	}
}

package terms_test

import (
	"slices"
	"strings"
	"testing"

	"truchman/api"
	"truchman/terms"
)

// P7.2: all occurrences, and those that are chosen of them.
func TestOccurrences(t *testing.T) {
	for _, x := range []struct {
		b         api.Termbase
		words     string
		all, find string
	}{
		// The example of the chapter.
		{base(givenBase), "the nets works and webs", "1+2:0.0 4+1:0.2", "1+2:0.0 4+1:0.2"},
		// Terms without an occurrence, words without a term, no words, no terms.
		{base(givenBase), "work the net", "", ""},
		{base(givenBase), "", "", ""},
		{api.Termbase{}, "net work", "", ""},
		{concepts("", ""), "net work", "", ""},
		{concepts("", "en p net", ""), "net", "0+1:1.0", "0+1:1.0"},
		// Just the terms of the tongue's language count.
		{concepts("de p net; en p work; De p work; e p net; enn p net"), "net work", "1+1:0.1", "1+1:0.1"},
		// The words of a term must all be there, one behind the other, in order.
		{concepts("en p net work web"), "net work", "", ""},
		{concepts("en p net work web"), "net work work web", "", ""},
		{concepts("en p net work web"), "work net web", "", ""},
		{concepts("en p net work web"), "net net Works WEB web", "1+3:0.0", "1+3:0.0"},
		{concepts("en p net net net net"), "net net nets net net", "0+4:0.0 1+4:0.0", "0+4:0.0"},
		// Literal elements, elements of several plain words, and other words.
		{concepts("en p =Net net+work =."), "Net networks . net networks .", "0+3:0.0", "0+3:0.0"},
		{concepts("en p ={n} =<"), "{n} < {n} <", "0+2:0.0 2+2:0.0", "0+2:0.0 2+2:0.0"},
		{concepts("en p x"), "X x xs", "0+1:0.0 1+1:0.0", "0+1:0.0 1+1:0.0"},
		// All: by At, then by Concept, then by Term.
		{concepts("en p net; en a =net", "en p net work; en p net"), "net work net", "0+1:0.0 0+1:0.1 0+2:1.0 0+1:1.1 2+1:0.0 2+1:0.1 2+1:1.1", "0+2:1.0 2+1:0.0"},
		// Find: the ones with more words first, wherever they stand.
		{concepts("en p net", "en p net work"), "net work", "0+1:0.0 0+2:1.0", "0+2:1.0"},
		{concepts("en p net work", "en p work web net"), "net work web net", "0+2:0.0 1+3:1.0", "1+3:1.0"},
		{concepts("en p net", "en f net work web"), "net net work web", "0+1:0.0 1+1:0.0 1+3:1.0", "0+1:0.0 1+3:1.0"},
		{concepts("en p net; en p work; en p web", "en p work web"), "net work web", "0+1:0.0 1+1:0.1 1+2:1.0 2+1:0.2", "0+1:0.0 1+2:1.0"},
		// Then by At, also a forbidden one.
		{concepts("en p work web; en f net work"), "net work web", "0+2:0.1 1+2:0.0", "0+2:0.1"},
		{concepts("en p net net"), "net net net net net", "0+2:0.0 1+2:0.0 2+2:0.0 3+2:0.0", "0+2:0.0 2+2:0.0"},
		// Then those that are not forbidden, of whatever concept and term.
		{concepts("en f net", "en f net; en p =net"), "net", "0+1:0.0 0+1:1.0 0+1:1.1", "0+1:1.1"},
		{concepts("en f net; en a =net"), "net Net", "0+1:0.0 0+1:0.1 1+1:0.0", "0+1:0.1 1+1:0.0"},
		{concepts("en f net; en f =net"), "net", "0+1:0.0 0+1:0.1", "0+1:0.0"},
		// Then by Concept, then by Term; what is preferred is not ahead of what is allowed.
		{concepts("en a net", "en p net"), "net", "0+1:0.0 0+1:1.0", "0+1:0.0"},
		{concepts("de p net; en a net; en p =net"), "net", "0+1:0.1 0+1:0.2", "0+1:0.1"},
		{concepts("en f net", "en a =net", "en p net"), "net", "0+1:0.0 0+1:1.0 0+1:2.0", "0+1:1.0"},
		// What is left over of the words may be chosen yet.
		{concepts("en p net work; en p work web; en p web"), "net work web", "0+2:0.0 1+2:0.1 2+1:0.2", "0+2:0.0 2+1:0.2"},
		{concepts("en p net work web; en p web net; en p net web; en p web web"), "net work web net web web", "0+3:0.0 2+2:0.1 3+2:0.2 4+2:0.3", "0+3:0.0 3+2:0.2"},
		{concepts("en p net work web net; en p net work web; en p net work; en p net"), "net work web net", "0+4:0.0 0+3:0.1 0+2:0.2 0+1:0.3 3+1:0.3", "0+4:0.0"},
		// Domains do not matter.
		{base("domain a\ndomain b\nconcept x b\nterm en allowed net\nconcept y a\nterm en preferred =net\n"), "net", "0+1:0.0 0+1:1.0", "0+1:0.0"},
	} {
		if got := shown(all(t, x.b, english(), fields(x.words))); got != x.all {
			t.Errorf("All(%v, %s): %s, want %s", x.b.Concepts, x.words, got, x.all)
		}
		if got := shown(found(t, x.b, english(), fields(x.words))); got != x.find {
			t.Errorf("Find(%v, %s): %s, want %s", x.b.Concepts, x.words, got, x.find)
		}
	}
}

// P7.2: words may be any strings.
func TestAnyWords(t *testing.T) {
	words := []string{"", "\xff", "a b", "net work", "net", "\n", "work", "<b>", strings.Repeat("net", 30000), "net"}
	b := concepts("en p net; en p work; en p net work; en p net+net+net; en p =" + strings.Repeat("net", 30000))
	if got := shown(all(t, b, english(), words)); got != "4+1:0.0 6+1:0.1 8+1:0.4 9+1:0.0" {
		t.Error(got)
	}
	if got := shown(found(t, b, english(), words)); got != "4+1:0.0 6+1:0.1 8+1:0.4 9+1:0.0" {
		t.Error(got)
	}
}

// finding are the functions that take a termbase, a tongue and words, each as one that returns whether its result is zero.
var finding = map[string]func(b api.Termbase, x api.Tongue, words []string) (bool, api.Errno){
	"All": func(b api.Termbase, x api.Tongue, words []string) (bool, api.Errno) {
		l, e := terms.All(b, x, words)
		return l == nil, e
	},
	"Find": func(b api.Termbase, x api.Tongue, words []string) (bool, api.Errno) {
		l, e := terms.Find(b, x, words)
		return l == nil, e
	},
	"Suggest": func(b api.Termbase, x api.Tongue, words []string) (bool, api.Errno) {
		o := api.Occurrence{At: len(words) - 1, Words: 1, Concept: 1, Term: 0}
		l, e := terms.Suggest(b, x, words, o)
		return l == nil, e
	},
	"Suggest of what is no occurrence": func(b api.Termbase, x api.Tongue, words []string) (bool, api.Errno) {
		l, e := terms.Suggest(b, x, words, api.Occurrence{At: -1})
		if e == api.ErrNone && terms.Check(b) == api.OK {
			e = api.OK // so that the cases are the same for all
		}
		return l == nil, e
	},
}

// P7.2: the errors of what is asked of words, in their order; and lists that are as long as they may be.
func TestFindingErrors(t *testing.T) {
	fine := concepts("", "en p work")
	bad := concepts("", "en p work")
	bad.Concepts[1].Terms[0].Elements[0] = "Work"
	long := func(n int) []string { return append(slices.Repeat([]string{""}, n-1), "work") }
	for name, call := range finding {
		for i, x := range []struct {
			b     api.Termbase
			x     api.Tongue
			words []string
			want  api.Errno
		}{
			{bad, crooked("1"), long(513), api.ErrForm},
			{bad, english(), nil, api.ErrForm},
			{fine, crooked("1"), long(513), api.ErrName},
			{fine, tongue("", givenLexicon), nil, api.ErrName},
			{fine, tongue("en-us", givenLexicon), long(1), api.ErrName},
			{fine, crooked("en"), long(513), crookedIs},
			{fine, twisted("en"), nil, twistedIs},
			{fine, english(), long(513), api.ErrLimit},
			{fine, english(), long(10000), api.ErrLimit},
			{api.Termbase{}, english(), long(513), api.ErrLimit},
			{fine, english(), long(512), api.OK},
			{fine, english(), long(1), api.OK},
			{fine, mute("en"), long(2), api.OK},
		} {
			if zero, e := call(x.b, x.x, x.words); e != x.want || e != api.OK && !zero {
				t.Errorf("%s: case %d: error %d, want %d", name, i, e, x.want)
			}
		}
		for _, f := range faults() {
			b := sound()
			f.spoil(&b)
			if zero, e := call(b, crooked("1"), long(513)); e != f.e || !zero {
				t.Errorf("%s: %s: error %d, want %d", name, f.name, e, f.e)
			}
		}
	}
}

// P7.2: the greatest termbase, and the most words.
func TestMany(t *testing.T) {
	b := api.Termbase{Domains: []string{"d"}}
	for i := range api.MaxConcepts {
		c := api.Concept{Name: numbered(i), Domain: "d"}
		for j := range api.MaxTerms {
			elements := append(slices.Repeat([]string{"net"}, j/4), slices.Repeat([]string{"=net"}, j%4)...)
			if len(elements) == 0 || len(elements) > 4 {
				elements = []string{"=" + numbered(j)}
			}
			c.Terms = append(c.Terms, api.TermEntry{Lang: "en", Status: api.TsAllowed, Elements: elements})
		}
		b.Concepts = append(b.Concepts, c)
	}
	words := slices.Repeat([]string{"net"}, api.MaxWords)
	l := found(t, b, english(), words)
	for i, o := range l {
		if o != (api.Occurrence{At: 4 * i, Words: 4, Concept: 0, Term: 7}) {
			t.Fatal(shown(l))
		}
	}
	if every := all(t, b, english(), words); len(l) != 128 || len(every) < 64*10*500 {
		t.Errorf("%d of %d", len(l), len(every))
	}
}

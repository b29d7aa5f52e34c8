package terms_test

import (
	"slices"
	"strings"
	"testing"

	"truchman/api"
	"truchman/terms"
)

func printed(t *testing.T, b api.Termbase) string {
	t.Helper()
	s, e := terms.Print(b)
	if e != api.OK {
		t.Fatalf("Print(%v): error %d", b, e)
	}
	return s
}

func parsed(t *testing.T, text string) api.Termbase {
	t.Helper()
	b, line, e := terms.Parse(text)
	if e != api.OK || line != 0 {
		t.Fatalf("Parse(%q): line %d, error %d", text, line, e)
	}
	return b
}

// soundText is the text of the termbase sound.
const soundText = `domain it
domain law
domain Spare_1
concept empty law
concept net it
term en preferred net work
term en allowed net+work =!
term de forbidden =Netz =- =Werk e+i+n
concept act law
term en forbidden act
`

// P7.1, P7.3: termbases and their texts.
func TestTexts(t *testing.T) {
	given := api.Termbase{Domains: []string{"it"}, Concepts: []api.Concept{{Name: "c", Domain: "it", Terms: []api.TermEntry{
		{Lang: "en", Status: api.TsPreferred, Elements: []string{"net", "work"}},
		{Lang: "en", Status: api.TsAllowed, Elements: []string{"net+work"}},
		{Lang: "en", Status: api.TsForbidden, Elements: []string{"web"}},
	}}}}
	for _, x := range []struct {
		b    api.Termbase
		text string
	}{
		{sound(), soundText},
		{given, givenBase},
		{api.Termbase{}, ""},
		{api.Termbase{Domains: []string{"b", "a"}}, "domain b\ndomain a\n"},
		{api.Termbase{Domains: []string{"domain"}, Concepts: []api.Concept{{Name: "concept", Domain: "domain", Terms: []api.TermEntry{
			{Lang: "term", Status: api.TsAllowed, Elements: []string{"preferred", "=é", "={n}"}},
		}}}}, "domain domain\nconcept concept domain\nterm term allowed preferred =é ={n}\n"},
	} {
		if got := printed(t, x.b); got != x.text {
			t.Errorf("printed:\n%s\nwant:\n%s", got, x.text)
		}
		if got := parsed(t, x.text); !same(got, x.b) {
			t.Errorf("parsed: %v, want %v", got, x.b)
		}
		if got := parsed(t, strings.TrimSuffix(x.text, "\n")); !same(got, x.b) {
			t.Errorf("parsed without the last line feed: %v, want %v", got, x.b)
		}
	}
}

// P7.1: which lines may stand right behind which ones.
func TestOrderOfLines(t *testing.T) {
	start := map[string]string{
		"nothing": "",
		"domain":  "domain d\n",
		"concept": "domain d\nconcept c d\n",
		"term":    "domain d\nconcept c d\nterm en allowed a\n",
	}
	allowed := map[string]string{"nothing": "domain concept", "domain": "domain concept", "concept": "concept term", "term": "concept term"}
	lines := map[string]string{"domain": "domain e", "concept": "concept f d", "term": "term en allowed b"}
	for ahead, text := range start {
		for kind, line := range lines {
			number := strings.Count(text, "\n") + 1
			_, n, e := terms.Parse(text + line + "\nx")
			if strings.Contains(allowed[ahead], kind) {
				number++ // the line that is of no form
			}
			if e != api.ErrForm || n != number {
				t.Errorf("%s behind %s: line %d, error %d, want line %d", kind, ahead, n, e, number)
			}
		}
	}
}

// P7.1: lines that are of the form, and lines that are not, behind a term, or behind a domain.
func TestLines(t *testing.T) {
	for _, x := range []struct {
		line string
		e    api.Errno
	}{
		{"domain e", api.OK}, {"domain d", api.ErrTwice}, {"domain -", api.ErrName}, {"domain \xff", api.ErrName}, {"domain e\r", api.ErrName}, {"domain \t", api.ErrName},
		{"domain", api.ErrForm}, {"domain ", api.ErrForm}, {"domain e ", api.ErrForm}, {" domain e", api.ErrForm}, {"domain  e", api.ErrForm}, {"domain e f", api.ErrForm},
		{"Domain e", api.ErrForm}, {"domains e", api.ErrForm}, {"domain\te", api.ErrForm},
		{"concept f d", api.OK}, {"concept f e", api.ErrNone}, {"concept - d", api.ErrName}, {"concept - -", api.ErrName}, {"concept concept d", api.OK},
		{"concept", api.ErrForm}, {"concept f", api.ErrForm}, {"concept f d d", api.ErrForm}, {"concept f  d", api.ErrForm}, {"concept f d ", api.ErrForm}, {"concepts f d", api.ErrForm},
		{"", api.ErrForm}, {" ", api.ErrForm}, {";", api.ErrForm}, {"; domain e", api.ErrForm}, {"x", api.ErrForm}, {"\r", api.ErrForm}, {"\x00", api.ErrForm}, {"\ufeffdomain e", api.ErrForm},
	} {
		checkLine(t, "domain d\n", x.line, x.e)
	}
	for _, x := range []struct {
		line string
		e    api.Errno
	}{
		{"term en allowed a", api.ErrTwice}, {"term en preferred a", api.ErrTwice}, {"term de allowed a", api.OK}, {"term en forbidden b c", api.OK}, {"term en preferred =a", api.OK},
		{"term en allowed a+b+c ={n} == =.", api.OK}, {"term en allowed a b c d e", api.ErrLimit}, {"term - allowed a", api.ErrName}, {"term en allowed A", api.ErrForm},
		{"term en allowed " + strings.Repeat("x ", 1000) + "x", api.ErrLimit}, {"term term allowed allowed", api.OK},
		{"concept c d", api.ErrTwice}, {"concept e d", api.OK}, {"concept e e", api.ErrNone},
	} {
		checkLine(t, "domain d\nconcept c d\nterm en allowed a\n", x.line, x.e)
	}
	for _, line := range []string{
		"term en allowed", "term en", "term", "term en allowed ", "term en allowed  a", "term en allowed a ", "term en Allowed a", "term en none a", "term en a a", "term en 1 a", "term en - a",
		"term en preferred", "term  allowed a", " term en allowed a", "terms en allowed a", "term en allowedx a", "term en prefer a", "domain e", "", "x",
	} {
		for _, ahead := range []string{"domain d\nconcept c d\n", "domain d\nconcept c d\nterm en allowed a\n"} {
			_, n, e := terms.Parse(ahead + line + "\nconcept e d\n")
			if want := strings.Count(ahead, "\n") + 1; e != api.ErrForm || n != want {
				t.Errorf("%q: line %d, error %d, want line %d", line, n, e, want)
			}
		}
	}
}

// checkLine parses a line behind other ones. An ErrForm that is that of the line has its number, one that is Check's has none.
func checkLine(t *testing.T, ahead, line string, want api.Errno) {
	t.Helper()
	number := 0
	if want == api.ErrForm && line != "term en allowed A" {
		number = strings.Count(ahead, "\n") + 1
	}
	if b, n, e := terms.Parse(ahead + line + "\n"); e != want || n != number || e != api.OK && !same(b, api.Termbase{}) {
		t.Errorf("%q: %v, line %d, error %d, want %d, %d", line, b, n, e, number, want)
	}
}

// P7.1: the first line that goes wrong decides, and its form ahead of what Check says.
func TestFirstLine(t *testing.T) {
	for _, x := range []struct {
		text string
		line int
		e    api.Errno
	}{
		{"\n", 1, api.ErrForm},
		{"\n\n", 1, api.ErrForm},
		{"domain d\n\n", 2, api.ErrForm},
		{"domain d\n\ndomain e\n", 2, api.ErrForm},
		{"domain 1\nx\ny\n", 2, api.ErrForm},
		{"domain 1\ndomain 1\nx", 3, api.ErrForm},
		{"domain 1\nconcept c 1\n", 0, api.ErrName},
		{"term en allowed a\nx", 1, api.ErrForm},
		{"concept c d\nx\n", 2, api.ErrForm},
		{"concept c d\n", 0, api.ErrNone},
		{"concept c d\ndomain d\n", 2, api.ErrForm},
		{"domain d\nconcept c d\nterm en allowed A\ndomain e\n", 4, api.ErrForm},
		{"domain d\nconcept c d\nterm en allowed A\n", 0, api.ErrForm},
		{strings.Repeat("domain d\n", 100) + "x", 101, api.ErrForm},
		{strings.Repeat("domain d\n", 100), 0, api.ErrLimit},
		{strings.Repeat("concept d d\n", 100), 0, api.ErrLimit},
		{strings.Repeat("domain d\n", 2), 0, api.ErrTwice},
	} {
		if b, n, e := terms.Parse(x.text); n != x.line || e != x.e || !same(b, api.Termbase{}) {
			t.Errorf("%.50q: %v, line %d, error %d, want %d, %d", x.text, b, n, e, x.line, x.e)
		}
	}
}

// P7.1: Parse has the errors of Check, with line 0.
func TestParsedFaults(t *testing.T) {
	parsed := 0
	for _, f := range faults() {
		b := sound()
		f.spoil(&b)
		text, ok := rawText(b)
		if !ok {
			continue
		}
		parsed++
		if got, n, e := terms.Parse(text); e != f.e || n != 0 || !same(got, api.Termbase{}) {
			t.Errorf("%s: %v, line %d, error %d, want %d", f.name, got, n, e, f.e)
		}
	}
	if parsed < 50 {
		t.Errorf("just %d faults have a text", parsed)
	}
}

// rawText returns the text of a termbase that need not be valid; false if its lines would not be of the form.
func rawText(b api.Termbase) (string, bool) {
	var lines [][]string
	for _, d := range b.Domains {
		lines = append(lines, []string{"domain", d})
	}
	for _, c := range b.Concepts {
		lines = append(lines, []string{"concept", c.Name, c.Domain})
		for _, x := range c.Terms {
			if x.Status < 1 || x.Status > 3 || len(x.Elements) == 0 {
				return "", false
			}
			status := [...]string{"", "preferred", "allowed", "forbidden"}[x.Status]
			lines = append(lines, slices.Concat([]string{"term", x.Lang, status}, x.Elements))
		}
	}
	text := ""
	for _, l := range lines {
		if slices.ContainsFunc(l, func(w string) bool { return w == "" || strings.ContainsAny(w, " \n") }) {
			return "", false
		}
		text += strings.Join(l, " ") + "\n"
	}
	return text, true
}

// P7.1: texts of MaxText bytes, and of one more.
func TestLongTexts(t *testing.T) {
	long := func(n int) api.Termbase {
		b := sound()
		b.Concepts[1].Terms[2].Elements[0] = "=" + strings.Repeat("a", n)
		return b
	}
	spare := api.MaxText - len(printed(t, long(1)))
	text := printed(t, long(1+spare))
	if len(text) != api.MaxText || !same(parsed(t, text), long(1+spare)) {
		t.Errorf("%d bytes", len(text))
	}
	if got, e := terms.Print(long(2 + spare)); e != api.ErrLimit || got != "" {
		t.Errorf("%d bytes, error %d", len(got), e)
	}
	bad := long(2 + spare)
	bad.Concepts[2].Name = ""
	if got, e := terms.Print(bad); e != api.ErrName || got != "" {
		t.Errorf("%d bytes, error %d", len(got), e)
	}
	for _, text := range []string{strings.Replace(text, "aaa", "aaaa", 1), "x" + text, strings.Repeat("\n", api.MaxText+1)} {
		if b, n, e := terms.Parse(text); e != api.ErrLimit || n != 0 || !same(b, api.Termbase{}) {
			t.Errorf("%d bytes: line %d, error %d", len(text), n, e)
		}
	}
	if _, n, e := terms.Parse(strings.Repeat("\n", api.MaxText)); e != api.ErrForm || n != 1 {
		t.Errorf("line %d, error %d", n, e)
	}
}

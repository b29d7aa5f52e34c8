package grammar_test

import (
	"slices"
	"strings"
	"testing"

	"truchman/api"
	"truchman/grammar"
)

func parsed(t *testing.T, text string) api.System {
	t.Helper()
	s, line, e := grammar.Parse(sound().Source, sound().Target, text)
	if e != api.OK || line != 0 {
		t.Fatalf("Parse(%q): line %d, error %d", text, line, e)
	}
	return s
}

func printed(t *testing.T, s api.System) string {
	t.Helper()
	text, e := grammar.Print(s)
	if e != api.OK {
		t.Fatalf("Print(%v): error %d", s, e)
	}
	return text
}

// soundText is the text of the system sound.
const soundText = `start S
rule S 1
cat NP
cat VP
source 1 2
target 1 2
rule NP 10000
lex dog hund
cat S
source =the 1 2
target 2 =der 1
has 1.s.num pl
same 0.t.gen 2.s.per
has 2.t.gen f
rule VP 2
lex see seh
cat NP
source 1 2
target 2 1
`

// oddText has what is seldom: a target without items, words that look like items, a rule without parts.
const oddText = `start Nothing
rule A 0
source =1 == =;
target
rule A_1 99
source =a
target === =-
has 0.s.num sg
`

// P3.2: systems and their texts.
func TestTexts(t *testing.T) {
	odd := sound()
	odd.Start = "Nothing"
	word := func(s string) api.Item { return api.Item{Word: s} }
	odd.Rules = []api.Rule{
		{Left: "A", Source: []api.Item{word("1"), word("="), word(";")}},
		{Left: "A_1", Source: []api.Item{word("a")}, Target: []api.Item{word("=="), word("-")}, Equations: []api.Equation{has("0.s.num", "sg")}, Cost: 99},
	}
	none := sound()
	none.Rules = nil
	for _, x := range []struct {
		s    api.System
		text string
	}{{given(), givenText}, {sound(), soundText}, {odd, oddText}, {none, "start S\n"}} {
		if got := printed(t, x.s); got != x.text {
			t.Errorf("printed:\n%s\nwant:\n%s", got, x.text)
		}
		got, line, e := grammar.Parse(x.s.Source, x.s.Target, x.text)
		if e != api.OK || line != 0 || !sameSystem(got, x.s) {
			t.Errorf("parsed: %v, line %d, error %d, want %v", got, line, e, x.s)
		}
	}
}

// P3.2: lines that are passed over, and a last line without a line feed.
func TestPassedOver(t *testing.T) {
	for _, text := range []string{
		"\n\n;\n; start x\n;x" + strings.Repeat("\n", 9) + soundText,
		strings.ReplaceAll(soundText, "\n", "\n\n; a remark\n;;\n"),
		strings.TrimSuffix(soundText, "\n"),
		soundText + "\n\n;",
		soundText + ";\xff\x00",
	} {
		if got := parsed(t, text); !sameSystem(got, sound()) {
			t.Errorf("%q: %v", text, got)
		}
	}
}

// P3.2: which lines may stand right behind which ones, and which ones may be the last.
func TestOrderOfLines(t *testing.T) {
	ahead := map[string]string{
		"start":  "start S\n",
		"rule":   "start S\nrule S 0\n",
		"cat":    "start S\nrule S 0\ncat A\n",
		"lex":    "start S\nrule S 0\nlex dog hund\n",
		"source": "start S\nrule S 0\nsource =a\n",
		"target": "start S\nrule S 0\nsource =a\ntarget =a\n",
		"has":    "start S\nrule S 0\nsource =a\ntarget\nhas 0.s.num sg\n",
		"same":   "start S\nrule S 0\nsource =a\ntarget\nsame 0.s.num 0.s.num\n",
	}
	follows := map[string]string{
		"start": "rule", "rule": "cat lex source", "cat": "cat lex source", "lex": "cat lex source",
		"source": "target", "target": "rule has same", "has": "rule has same", "same": "rule has same",
	}
	lines := map[string]string{
		"start": "start A", "rule": "rule A 1", "cat": "cat B", "lex": "lex see seh",
		"source": "source =b", "target": "target", "has": "has 0.s.num pl", "same": "same 0.s.per 0.s.per",
	}
	isOpen := func(kind string) bool { return slices.Contains(strings.Fields("rule cat lex source"), kind) }
	for kind, text := range ahead {
		n := strings.Count(text, "\n")
		if _, line, e := grammar.Parse(sound().Source, sound().Target, text+"\n;\n\n"); isOpen(kind) && (e != api.ErrForm || line != n) || !isOpen(kind) && e != api.OK {
			t.Errorf("%s as the last line: line %d, error %d", kind, line, e)
		}
		for next, more := range lines {
			_, line, e := grammar.Parse(sound().Source, sound().Target, text+"\n"+more+"\n")
			allowed := slices.Contains(strings.Fields(follows[kind]), next)
			// A rule that is not whole yet is told of at the last line, too.
			if wrong := !allowed || isOpen(next); (e == api.ErrForm) != wrong || wrong && line != n+2 || !wrong && line != 0 {
				t.Errorf("%s behind %s: line %d, error %d", next, kind, line, e)
			}
			if !allowed { // the line itself is wrong, whatever comes
				if _, line, e := grammar.Parse(sound().Source, sound().Target, text+more+"\nx\n"); e != api.ErrForm || line != n+1 {
					t.Errorf("%s behind %s: line %d, error %d", next, kind, line, e)
				}
			} else if _, line, e := grammar.Parse(sound().Source, sound().Target, text+more+"\nx\n"); e != api.ErrForm || line != n+2 {
				t.Errorf("%s behind %s, and a wrong line: line %d, error %d", next, kind, line, e)
			}
		}
	}
	for kind, line := range lines {
		want := 3
		if kind == "start" { // the second one is wrong
			want = 4
		}
		if _, n, e := grammar.Parse(sound().Source, sound().Target, "\n;\n"+line+"\nstart S\n"); e != api.ErrForm || n != want {
			t.Errorf("%s first: line %d, error %d", kind, n, e)
		}
	}
}

// P3.2: lines that are of the form, whatever Check says, and lines that are not.
func TestLines(t *testing.T) {
	for _, x := range []struct {
		ahead, line, behind string
		e                   api.Errno
	}{
		{"", "start S", "", api.OK}, {"", "start -", "", api.ErrName}, {"", "start é", "", api.ErrName}, {"", "start S\t", "", api.ErrName},
		{"", "start", "", api.ErrForm}, {"", "start ", "", api.ErrForm}, {"", "start S S", "", api.ErrForm}, {"", "start  S", "", api.ErrForm},
		{"", " start S", "", api.ErrForm}, {"", "start S ", "", api.ErrForm}, {"", "Start S", "", api.ErrForm}, {"", " ", "", api.ErrForm}, {"", " ;", "", api.ErrForm},
		{"start S", "rule A 0", "source =a|target", api.OK}, {"start S", "rule A 10000", "source =a|target", api.OK},
		{"start S", "rule A 10001", "source =a|target", api.ErrArg}, {"start S", "rule A 99999", "source =a|target", api.ErrArg},
		{"start S", "rule 0 0", "source =a|target", api.ErrName}, {"start S", "rule A 100000", "source =a|target", api.ErrForm},
		{"start S", "rule A -1", "", api.ErrForm}, {"start S", "rule A -0", "", api.ErrForm}, {"start S", "rule A +1", "", api.ErrForm}, {"start S", "rule A 01", "", api.ErrForm},
		{"start S", "rule A 00", "", api.ErrForm}, {"start S", "rule A x", "", api.ErrForm}, {"start S", "rule A 0x1", "", api.ErrForm}, {"start S", "rule A 1_0", "", api.ErrForm},
		{"start S", "rule A 99999999999999999999", "", api.ErrForm}, {"start S", "rule A", "", api.ErrForm}, {"start S", "rule A ", "", api.ErrForm},
		{"start S", "rule A 0 0", "", api.ErrForm}, {"start S", "rule A 0 ", "", api.ErrForm}, {"start S", "rules A 0", "", api.ErrForm}, {"start S", "rule", "", api.ErrForm},
		{"start S|rule A 0", "cat B", "source =x 1|target 1", api.OK}, {"start S|rule A 0", "cat -", "source 1|target 1", api.ErrName},
		{"start S|rule A 0", "cat", "", api.ErrForm}, {"start S|rule A 0", "cat ", "", api.ErrForm}, {"start S|rule A 0", "cat B C", "", api.ErrForm},
		{"start S|rule A 0", "lex dog hund", "source 1|target 1", api.OK}, {"start S|rule A 0", "lex hund dog", "source 1|target 1", api.ErrNone}, {"start S|rule A 0", "lex - -", "source 1|target 1", api.ErrNone},
		{"start S|rule A 0", "lex dog", "", api.ErrForm}, {"start S|rule A 0", "lex dog hund ", "", api.ErrForm}, {"start S|rule A 0", "lex dog  hund", "", api.ErrForm}, {"start S|rule A 0", "lex", "", api.ErrForm},
		{"start S|rule A 0", "source =a", "target =b", api.OK}, {"start S|rule A 0", "source", "target", api.ErrArg}, {"start S|rule A 0", "source 0", "target", api.ErrArg},
		{"start S|rule A 0", "source 99999", "target", api.ErrArg}, {"start S|rule A 0", "source =a =a =a =a =a =a =a =a =a", "target", api.ErrLimit},
		{"start S|rule A 0", "source =é", "target", api.ErrArg}, {"start S|rule A 0", "source =a=a", "target", api.OK},
		{"start S|rule A 0", "source ", "", api.ErrForm}, {"start S|rule A 0", "source =a ", "", api.ErrForm}, {"start S|rule A 0", "source  =a", "", api.ErrForm},
		{"start S|rule A 0", "source =", "", api.ErrForm}, {"start S|rule A 0", "source a", "", api.ErrForm}, {"start S|rule A 0", "source -1", "", api.ErrForm},
		{"start S|rule A 0", "source 01", "", api.ErrForm}, {"start S|rule A 0", "source 100000", "", api.ErrForm}, {"start S|rule A 0", "source 1=a", "", api.ErrForm},
		{"start S|rule A 0|source =a", "target", "", api.OK}, {"start S|rule A 0|source =a", "target 1", "", api.ErrArg}, {"start S|rule A 0|source =a", "target =", "", api.ErrForm},
		{"start S|rule A 0|source =a", "target ", "", api.ErrForm}, {"start S|rule A 0|source =a", "target x", "", api.ErrForm},
		{"start S|rule A 0|source =a|target", "has 0.s.num sg", "", api.OK}, {"start S|rule A 0|source =a|target", "has 1.s.num sg", "", api.ErrArg},
		{"start S|rule A 0|source =a|target", "has 99999.t.num sg", "", api.ErrArg}, {"start S|rule A 0|source =a|target", "has 0.s.num -", "", api.ErrArg},
		{"start S|rule A 0|source =a|target", "has 0.s. sg", "", api.ErrName}, {"start S|rule A 0|source =a|target", "has 0.t. sg", "", api.ErrName},
		{"start S|rule A 0|source =a|target", "has 0.s.num.x sg", "", api.ErrName}, {"start S|rule A 0|source =a|target", "has 0.s... sg", "", api.ErrName},
		{"start S|rule A 0|source =a|target", "has 0.s sg", "", api.ErrForm}, {"start S|rule A 0|source =a|target", "has 0 sg", "", api.ErrForm},
		{"start S|rule A 0|source =a|target", "has 0.S.num sg", "", api.ErrForm}, {"start S|rule A 0|source =a|target", "has 0..num sg", "", api.ErrForm},
		{"start S|rule A 0|source =a|target", "has 0.st.num sg", "", api.ErrForm}, {"start S|rule A 0|source =a|target", "has .s.num sg", "", api.ErrForm},
		{"start S|rule A 0|source =a|target", "has 00.s.num sg", "", api.ErrForm}, {"start S|rule A 0|source =a|target", "has -1.s.num sg", "", api.ErrForm},
		{"start S|rule A 0|source =a|target", "has 100000.s.num sg", "", api.ErrForm}, {"start S|rule A 0|source =a|target", "has x.s.num sg", "", api.ErrForm},
		{"start S|rule A 0|source =a|target", "has 0.s.num", "", api.ErrForm}, {"start S|rule A 0|source =a|target", "has 0.s.num ", "", api.ErrForm}, {"start S|rule A 0|source =a|target", "has 0.s.num sg pl", "", api.ErrForm},
		{"start S|rule A 0|source =a|target", "same 0.s.num 0.t.num", "", api.OK}, {"start S|rule A 0|source =a|target", "same 0.s.num 1.t.num", "", api.ErrArg},
		{"start S|rule A 0|source =a|target", "same 0.s.num 0.t.", "", api.ErrName}, {"start S|rule A 0|source =a|target", "same 0.s. 0.s.", "", api.ErrName},
		{"start S|rule A 0|source =a|target", "same 0.s.num sg", "", api.ErrForm}, {"start S|rule A 0|source =a|target", "same 0.s.num 0.x.num", "", api.ErrForm},
		{"start S|rule A 0|source =a|target", "same 0.s.num", "", api.ErrForm}, {"start S|rule A 0|source =a|target", "same 0.s.num 0.s.num 0.s.num", "", api.ErrForm},
		{"start S|rule A 0|source =a|target", "\x00", "", api.ErrForm}, {"start S|rule A 0|source =a|target", "\r", "", api.ErrForm}, {"start S|rule A 0|source =a|target", "remark", "", api.ErrForm},
	} {
		lines := slices.DeleteFunc(strings.Split(x.ahead+"|"+x.line+"|"+x.behind, "|"), func(s string) bool { return s == "" })
		want := 0
		if x.e == api.ErrForm {
			want = slices.Index(lines, x.line) + 1
		}
		text := strings.Join(lines, "\n") + "\n"
		if s, line, e := grammar.Parse(sound().Source, sound().Target, text); line != want || e != x.e || e != api.OK && !isZero(s) {
			t.Errorf("%q: %v, line %d, error %d, want %d, %d", text, s, line, e, want, x.e)
		}
	}
}

// P3.2: the first line that goes wrong decides, ahead of a rule that is not whole, and that ahead of what Check says.
func TestFirstLine(t *testing.T) {
	for _, x := range []struct {
		text string
		line int
		e    api.Errno
	}{
		{"", 0, api.ErrForm},
		{"\n", 0, api.ErrForm},
		{"; start S\n\n", 0, api.ErrForm},
		{"start ?\nx\ny\n", 2, api.ErrForm},
		{"start ?\n\n;\nrule", 4, api.ErrForm},
		{"start ?\nrule A 0\n\n;\n", 2, api.ErrForm},
		{"start ?\nrule A 0\nsource =a", 3, api.ErrForm},
		{"start ?\nrule A 0\nsource =a\n\ntarget", 0, api.ErrName},
		{"start S\nrule A 0\nsource =a\ntarget\nrule A 0\ncat B\n;\n\n", 6, api.ErrForm},
		{"start S\nrule A 0\nrule A 0\nsource =a\ntarget\n", 3, api.ErrForm},
		{"start S\nrule A 0\nsource =a\nrule A 0\n", 4, api.ErrForm},
		{"start S\nrule A 0\nsource =a\ntarget\nstart S\n", 5, api.ErrForm},
		{"start S\nrule A 0\ntarget\nsource =a\n", 3, api.ErrForm},
		{"start S\nrule A 0\ncat A\nsource 1\ntarget 1\n", 0, api.ErrLoop},
		{"start S\r\n", 0, api.ErrName},
	} {
		if s, line, e := grammar.Parse(sound().Source, sound().Target, x.text); line != x.line || e != x.e || !isZero(s) {
			t.Errorf("%q: %v, line %d, error %d, want %d, %d", x.text, s, line, e, x.line, x.e)
		}
	}
}

// P3.2: errors of the lexicons come behind those of the lines, and ahead of those of the rules.
func TestParseLexicons(t *testing.T) {
	bad, other := sound().Source, sound().Target
	bad.Vowels, other.Links = "ba", make([]api.Link, 9)
	for _, x := range []struct {
		source, target api.Lexicon
		text           string
		line           int
		e              api.Errno
	}{
		{bad, other, "start", 1, api.ErrForm}, {bad, other, "start ?", 0, api.ErrArg}, {sound().Source, other, "start ?", 0, api.ErrLimit}, {sound().Source, sound().Target, "start ?", 0, api.ErrName},
	} {
		if s, line, e := grammar.Parse(x.source, x.target, x.text); line != x.line || e != x.e || !isZero(s) {
			t.Errorf("%q: %v, line %d, error %d, want %d, %d", x.text, s, line, e, x.line, x.e)
		}
	}
}

// P3.2: texts of MaxText bytes, and of one more.
func TestLongTexts(t *testing.T) {
	fill := strings.Repeat(";", api.MaxText-len(soundText))
	if got := parsed(t, soundText+fill); !sameSystem(got, sound()) {
		t.Error(got)
	}
	for _, text := range []string{soundText + fill + ";", "x\n" + soundText + fill, strings.Repeat("\n", api.MaxText+1)} {
		if s, line, e := grammar.Parse(crooked().Source, crooked().Target, text); e != api.ErrLimit || line != 0 || !isZero(s) {
			t.Errorf("line %d, error %d", line, e)
		}
	}
	if _, line, e := grammar.Parse(sound().Source, sound().Target, strings.Repeat("\n", api.MaxText-1)+"x"); e != api.ErrForm || line != api.MaxText {
		t.Errorf("line %d, error %d", line, e)
	}
}

// P3.2: a system whose text has just MaxText bytes is printed; one with one more is not.
func TestLongSystem(t *testing.T) {
	s := widest()
	if got, e := grammar.Print(s); e != api.ErrLimit || got != "" {
		t.Errorf("%d bytes, error %d", len(got), e)
	}
	s.Start = "S"
	for i := range s.Rules {
		s.Rules[i].Equations = s.Rules[i].Equations[:8]
	}
	longer := func(n int) int { // lets words grow by at most n bytes together, and returns how many are left
		for i := range s.Rules {
			for j := range s.Rules[i].Target {
				x := &s.Rules[i].Target[j]
				if x.Part != 0 {
					continue
				}
				x.Word = strings.Repeat("a", 1+min(n, 23))
				n -= len(x.Word) - 1
			}
		}
		return n
	}
	longer(0)
	if rest := longer(api.MaxText - len(printed(t, s))); rest != 0 {
		t.Fatalf("%d bytes are left", rest)
	}
	text := printed(t, s)
	if got, _, e := grammar.Parse(s.Source, s.Target, text); len(text) != api.MaxText || e != api.OK || !sameSystem(got, s) {
		t.Errorf("%d bytes, error %d", len(text), e)
	}
	s.Start = "SS"
	if got, e := grammar.Print(s); e != api.ErrLimit || got != "" {
		t.Errorf("%d bytes, error %d", len(got), e)
	}
}

// R4: what Parse returns shares no memory with the lexicons, and its lexicons share none with each other.
func TestParseShares(t *testing.T) {
	l := full()
	s, _, e := grammar.Parse(l, l, "start S\n")
	if e != api.OK || !sameLexicon(s.Source, l) || !sameLexicon(s.Target, l) {
		t.Fatal(e)
	}
	spoil(&s.Source)
	if !sameLexicon(s.Target, full()) || !sameLexicon(l, full()) {
		t.Error("the lexicons share memory")
	}
	spoil(&l)
	if !sameLexicon(s.Target, full()) {
		t.Error("the target lexicon shares memory with the argument")
	}
}

package morph_test

import (
	"strings"
	"testing"

	"truchman/api"
	"truchman/morph"
)

func parsed(t *testing.T, text string) api.Lexicon {
	t.Helper()
	l, line, e := morph.Parse(text)
	if e != api.OK || line != 0 {
		t.Fatalf("Parse(%q): line %d, error %d", text, line, e)
	}
	return l
}

func printed(t *testing.T, l api.Lexicon) string {
	t.Helper()
	s, e := morph.Print(l)
	if e != api.OK {
		t.Fatalf("Print(%v): error %d", l, e)
	}
	return s
}

// soundText is the text of the lexicon sound.
const soundText = `vowels aei
trait case nom acc
trait num sg pl
class noun
slot 0 - - num=sg
slot 0 - s case=acc num=pl
class verb
slot 1 - -
slot 0 re - num=pl
entry dog noun
entry see verb case=nom
form 1 saw
form 0 -
spell a - - -
spell b+ +c #V+ C+#
link noun -
link verb s num=pl
`

// P2.3: lexicons and their texts.
func TestTexts(t *testing.T) {
	for _, x := range []struct {
		l    api.Lexicon
		text string
	}{{given(), givenText}, {sound(), soundText}, {api.Lexicon{}, "vowels -\n"}} {
		if got := printed(t, x.l); got != x.text {
			t.Errorf("printed:\n%s\nwant:\n%s", got, x.text)
		}
		if got := parsed(t, x.text); !same(got, x.l) {
			t.Errorf("parsed: %v, want %v", got, x.l)
		}
	}
}

// P2.3: Print returns the error of a lexicon.
func TestPrintErrors(t *testing.T) {
	for _, f := range faults() {
		l := sound()
		f.spoil(&l)
		if got, e := morph.Print(l); e != f.e || got != "" {
			t.Errorf("%s: %q, error %d, want %d", f.name, got, e, f.e)
		}
	}
}

// P2.3: lines that are passed over, and a last line without a line feed.
func TestPassedOver(t *testing.T) {
	for _, text := range []string{
		"\n\n;\n; trait x\n;x" + strings.Repeat("\n", 9) + givenText,
		strings.ReplaceAll(givenText, "\n", "\n\n; a remark\n;;\n"),
		strings.TrimSuffix(givenText, "\n"),
		givenText + "\n\n;",
		givenText + ";\xff\x00",
	} {
		if got := parsed(t, text); !same(got, given()) {
			t.Errorf("%q: %v", text, got)
		}
	}
}

// start is lines of every kind, up to the one that is asked for.
func start(kind string) string {
	lines := ""
	for line := range strings.Lines("vowels a\ntrait num sg pl\nclass n\nslot 0 - -\nentry x n\nform 0 y\nspell a - - -\nlink n -\n") {
		lines += line
		if strings.HasPrefix(line, kind+" ") {
			return lines
		}
	}
	return lines
}

// P2.3: which lines may stand right behind which ones.
func TestOrderOfLines(t *testing.T) {
	follows := map[string]string{
		"vowels": "trait class entry spell link",
		"trait":  "trait class entry spell link",
		"class":  "class slot entry spell link",
		"slot":   "class slot entry spell link",
		"entry":  "entry form spell link",
		"form":   "entry form spell link",
		"spell":  "spell link",
		"link":   "link",
	}
	lines := map[string]string{
		"vowels": "vowels a", "trait": "trait case nom", "class": "class m", "slot": "slot 0 - b",
		"entry": "entry y n", "form": "form 0 z", "spell": "spell b - - -", "link": "link n -",
	}
	for ahead, allowed := range follows {
		for kind, line := range lines {
			text := start(ahead)
			_, n, e := morph.Parse(text + line + "\n")
			if strings.Contains(allowed, kind) {
				if e == api.ErrForm || n != 0 {
					t.Errorf("%s behind %s: line %d, error %d", kind, ahead, n, e)
				}
			} else if e != api.ErrForm || n != strings.Count(text, "\n")+1 {
				t.Errorf("%s behind %s: line %d, error %d", kind, ahead, n, e)
			}
		}
	}
	for _, kind := range []string{"trait", "class", "slot", "entry", "form", "spell", "link"} {
		if _, n, e := morph.Parse("\n;\n" + lines[kind] + "\n" + lines["vowels"]); e != api.ErrForm || n != 3 {
			t.Errorf("%s first: line %d, error %d", kind, n, e)
		}
	}
}

// P2.3: forms follow their entry or another form, entries follow forms.
func TestForms(t *testing.T) {
	text := "vowels a\nclass n\nslot 0 - -\nslot 0 - s\nentry x n\nform 1 y\nform 0 -\nentry y n\nentry z n\nform 1 -\nlink n -\n"
	l := parsed(t, text)
	if len(l.Entries) != 3 || len(l.Entries[0].Forms) != 2 || len(l.Entries[2].Forms) != 1 || printed(t, l) != text {
		t.Error(l)
	}
	for _, line := range []string{"slot 0 - -", "class m", "trait t v", "vowels -"} {
		for _, after := range []int{5, 8, 9, 11} { // lines with an entry or a link
			lines := strings.SplitAfter(text, "\n")
			bad := strings.Join(lines[:after], "") + line + "\n" + strings.Join(lines[after:], "")
			if _, n, e := morph.Parse(bad); e != api.ErrForm || n != after+1 {
				t.Errorf("%s as line %d: line %d, error %d", line, after+1, n, e)
			}
		}
	}
}

// P2.3: lines that are of the form, and lines that are not, behind lines that let them stand.
func TestLines(t *testing.T) {
	for _, x := range []struct {
		ahead string // the kind of the line ahead; none: it is the first one
		line  string
		e     api.Errno
	}{
		{"", "vowels -", api.OK}, {"", "vowels abc", api.OK}, {"", "vowels cba", api.ErrArg}, {"", "vowels -a", api.ErrArg},
		{"", "vowels é", api.ErrArg}, {"", "vowels a\t", api.ErrArg},
		{"", "vowels", api.ErrForm}, {"", "vowels ", api.ErrForm}, {"", "vowels a e", api.ErrForm}, {"", "vowels a ", api.ErrForm},
		{"", "vowels  a", api.ErrForm}, {"", " vowels a", api.ErrForm}, {"", "Vowels a", api.ErrForm}, {"", " ", api.ErrForm}, {"", "x", api.ErrForm},
		{"", " ;", api.ErrForm},
		{"vowels", "trait t v", api.OK}, {"vowels", "trait t v w x", api.OK}, {"vowels", "trait t", api.ErrArg}, {"vowels", "trait - v", api.ErrName},
		{"vowels", "trait t -", api.ErrName}, {"vowels", "trait t 1 1", api.ErrName}, {"vowels", "trait t v v", api.ErrTwice},
		{"vowels", "trait t a b c d e f g h i", api.ErrLimit},
		{"vowels", "trait", api.ErrForm}, {"vowels", "trait ", api.ErrForm}, {"vowels", "trait t ", api.ErrForm}, {"vowels", "trait t  v", api.ErrForm},
		{"vowels", "traits t v", api.ErrForm}, {"vowels", "", api.OK},
		{"trait", "class m", api.ErrArg}, {"trait", "class ?", api.ErrName}, {"trait", "class", api.ErrForm}, {"trait", "class m m", api.ErrForm},
		{"class", "slot 0 - -", api.OK}, {"class", "slot 24 abcdef abcdef num=sg", api.OK}, {"class", "slot 25 - -", api.ErrArg}, {"class", "slot 999 - -", api.ErrArg},
		{"class", "slot 1000 - -", api.ErrForm}, {"class", "slot -1 - -", api.ErrForm}, {"class", "slot -0 - -", api.ErrForm}, {"class", "slot 00 - -", api.ErrForm},
		{"class", "slot 01 - -", api.ErrForm}, {"class", "slot +1 - -", api.ErrForm}, {"class", "slot - - -", api.ErrForm}, {"class", "slot x - -", api.ErrForm},
		{"class", "slot 1x - -", api.ErrForm}, {"class", "slot 99999999999999999999 - -", api.ErrForm}, {"class", "slot 0x1 - -", api.ErrForm}, {"class", "slot 1_0 - -", api.ErrForm},
		{"class", "slot 0 -", api.ErrForm}, {"class", "slot 0 - - ", api.ErrForm}, {"class", "slot 0 -  -", api.ErrForm}, {"class", "slot 0 - - num", api.ErrForm},
		{"class", "slot 0 - - -", api.ErrForm}, {"class", "slot 0 - - num=sg=pl", api.ErrForm}, {"class", "slot 0 - - num==sg", api.ErrForm}, {"class", "slot 0 - - num=sg  num=sg", api.ErrForm},
		{"class", "slot 0 - - num=x", api.ErrArg}, {"class", "slot 0 - - x=sg", api.ErrName}, {"class", "slot 0 - - num=sg num=sg", api.ErrTwice}, {"class", "slot 0 A -", api.ErrArg},
		{"class", "slot 0 -- -", api.ErrArg}, {"class", "slot 0 - \r", api.ErrArg}, {"class", "slot 0 - - num=-", api.ErrArg},
		{"slot", "entry y n", api.OK}, {"slot", "entry y n num=sg", api.OK}, {"slot", "entry y m", api.ErrName}, {"slot", "entry - n", api.ErrArg},
		{"slot", "entry y -", api.ErrName}, {"slot", "entry Y n", api.ErrArg},
		{"slot", "entry y", api.ErrForm}, {"slot", "entry y n m", api.ErrForm}, {"slot", "entry y n num=sg ", api.ErrForm},
		{"entry", "entry x n", api.ErrTwice},
		{"entry", "form 0 z", api.OK}, {"entry", "form 0 -", api.OK}, {"entry", "form 1 z", api.ErrNone}, {"entry", "form 999 z", api.ErrNone}, {"entry", "form 0 Z", api.ErrArg},
		{"entry", "form 1000 z", api.ErrForm}, {"entry", "form 01 z", api.ErrForm}, {"entry", "form z", api.ErrForm}, {"entry", "form 0", api.ErrForm}, {"entry", "form 0 z z", api.ErrForm},
		{"form", "form 0 z", api.ErrTwice},
		{"form", "spell a b c d", api.OK}, {"form", "spell a+ - #VC+a #VC+a", api.OK}, {"form", "spell - a - -", api.ErrArg}, {"form", "spell a - v #", api.OK}, {"form", "spell a - % -", api.ErrArg},
		{"form", "spell a - -", api.ErrForm}, {"form", "spell a - - - -", api.ErrForm}, {"form", "spell a -  -", api.ErrForm},
		{"spell", "link n -", api.OK}, {"spell", "link n abc num=pl", api.OK}, {"spell", "link m -", api.ErrName}, {"spell", "link n abcdefg", api.ErrArg}, {"spell", "link n - num=x", api.ErrArg},
		{"spell", "link n", api.ErrForm}, {"spell", "link n - x", api.ErrForm}, {"spell", "link", api.ErrForm},
		{"link", "links n -", api.ErrForm}, {"link", "remark", api.ErrForm}, {"link", "\x00", api.ErrForm}, {"link", "\r", api.ErrForm},
	} {
		text := ""
		if x.ahead != "" {
			text = start(x.ahead)
		}
		line := 0
		if x.e == api.ErrForm {
			line = strings.Count(text, "\n") + 1
		}
		want := x.e
		if x.ahead == "class" && want == api.OK { // and the other kinds behind it
			text += x.line + "\n" + strings.TrimPrefix(start("link"), start("slot"))
		} else {
			text += x.line + "\n"
		}
		if l, n, e := morph.Parse(text); e != want || n != line || e != api.OK && !same(l, api.Lexicon{}) {
			t.Errorf("%q behind %s: line %d, error %d, want %d, %d", x.line, x.ahead, n, e, line, want)
		}
	}
}

// P2.3: the first line that goes wrong decides, and its form ahead of what Check says.
func TestFirstLine(t *testing.T) {
	for _, x := range []struct {
		text string
		line int
		e    api.Errno
	}{
		{"", 0, api.ErrForm},
		{"\n", 0, api.ErrForm},
		{"; vowels a\n", 0, api.ErrForm},
		{"vowels zz\nx\ny\n", 2, api.ErrForm},
		{"vowels zz\nclass n\n\n;\nslot 0 -\nx", 5, api.ErrForm},
		{"vowels zz\nclass n\n", 0, api.ErrArg},
		{"vowels a\nvowels e\n", 2, api.ErrForm},
		{"\n\n\nvowels", 4, api.ErrForm},
		{"vowels a\nentry x n\n", 0, api.ErrName},
		{"vowels a\nlink n -\n", 0, api.ErrName},
		{"vowels a\ntrait t v\nvowels a\n", 3, api.ErrForm},
		{"vowels a\r\n", 0, api.ErrArg},
	} {
		if l, n, e := morph.Parse(x.text); n != x.line || e != x.e || !same(l, api.Lexicon{}) {
			t.Errorf("%q: %v, line %d, error %d, want %d, %d", x.text, l, n, e, x.line, x.e)
		}
	}
}

// P2.3: texts of MaxText bytes, and of one more.
func TestLongTexts(t *testing.T) {
	fill := strings.Repeat(";", api.MaxText-len(givenText))
	if got := parsed(t, givenText+fill); !same(got, given()) {
		t.Error(got)
	}
	for _, text := range []string{givenText + fill + ";", "x\n" + givenText + fill, strings.Repeat("\n", api.MaxText+1)} {
		if l, n, e := morph.Parse(text); e != api.ErrLimit || n != 0 || !same(l, api.Lexicon{}) {
			t.Errorf("line %d, error %d", n, e)
		}
	}
	if _, n, e := morph.Parse(strings.Repeat("\n", api.MaxText-1) + "x"); e != api.ErrForm || n != api.MaxText {
		t.Errorf("line %d, error %d", n, e)
	}
}

// P2.3: a lexicon whose text has just MaxText bytes is printed; one with one more is not.
func TestLongLexicon(t *testing.T) {
	l := widest()
	if got, e := morph.Print(l); e != api.ErrLimit || got != "" {
		t.Errorf("%d bytes, error %d", len(got), e)
	}
	var forms []*api.Irregular
	for i := range l.Classes {
		for j := range l.Classes[i].Slots {
			l.Classes[i].Slots[j].Feats = nil
		}
	}
	for i := range l.Entries {
		for j := range l.Entries[i].Forms {
			forms = append(forms, &l.Entries[i].Forms[j])
		}
	}
	for _, f := range forms { // an empty word is written with one byte, too
		f.Word = ""
	}
	spare := api.MaxText - len(printed(t, l))
	if spare <= 0 || spare >= len(forms)*(api.MaxWord-1) {
		t.Fatal(spare)
	}
	for _, f := range forms {
		n := min(spare+1, api.MaxWord)
		f.Word = strings.Repeat("a", n)
		spare -= n - 1
	}
	text := printed(t, l)
	if len(text) != api.MaxText {
		t.Errorf("%d bytes", len(text))
	}
	if got := parsed(t, text); !same(got, l) {
		t.Error("the longest text is parsed as another lexicon")
	}
	forms[len(forms)-1].Word += "a"
	if got, e := morph.Print(l); e != api.ErrLimit || got != "" {
		t.Errorf("%d bytes, error %d", len(got), e)
	}
}

package desk_test

import (
	"fmt"
	"slices"
	"strings"
	"testing"

	"truchman/api"
	"truchman/desk"
	"truchman/office"
)

// forms are the first lines of all commands, with the names of laid, and how many lines their bodies have: 0 none, 1 just one, 2 any number.
var forms = []struct {
	first string
	lines int
}{
	{"lexicon N", 2}, {"system N L T", 2}, {"model N", 2}, {"terms N", 2}, {"rules N", 2}, {"checks N", 2}, {"office N R", 2},
	{"copy N O", 0}, {"analyze L dog", 0}, {"translate S M the dog", 0}, {"lang O fr", 0}, {"person O eve de reviewer", 0},
	{"lock O ann de 0", 0}, {"free O ann de 0", 0}, {"approve O bob de 0", 0}, {"reject O bob de 0", 0}, {"reopen O bob de 0", 0},
	{"pick O ann de 0 0", 0}, {"edit O ann de 0", 1}, {"source O", 2}, {"draft O ann de 0 S M", 0}, {"merge N O O O", 0},
	{"test C O de", 0}, {"issues B O de - en L T", 0}, {"show O de", 0}, {"verify", 0},
}

// P10.2: first lines that are not of a form, each made of one that is.
func TestFirstLines(t *testing.T) {
	d := laid(t, "p A. B\n")
	body := map[int]string{1: "|x\n", 2: "|p x\n"}
	for _, x := range forms {
		words := strings.Split(x.first, " ")
		short, long := strings.Join(words[:len(words)-1], " "), x.first+" x"
		if words[0] == "translate" { // it may have any number of words behind the model
			short, long = "translate S", "Translate S M"
		}
		wrong := []string{short, long, " " + x.first, x.first + " ", strings.ToUpper(x.first), x.first + "\r", "\t" + x.first, "#" + x.first, "|" + x.first, "x" + x.first}
		if len(words) > 1 {
			wrong = append(wrong, strings.Replace(x.first, " ", "  ", 1), strings.Replace(x.first, " ", "\t", 1), strings.Replace(x.first, " ", "", 1), words[0])
		}
		for i, w := range words {
			if len(w) == 1 && 'A' <= w[0] && w[0] <= 'Z' { // a name
				for _, s := range []string{"1", "_", "a-b", "a.b", "é", "abcdefghijklm", "a\x00", "\xff", "+"} {
					wrong = append(wrong, strings.Join(slices.Concat(words[:i], []string{s}, words[i+1:]), " "))
				}
			}
			if w == "0" {
				for _, s := range []string{"00", "01", "-1", "-0", "+0", "1000000000", "99999999999999999999", "0x", "x", "0.", "1_0", "٣"} {
					wrong = append(wrong, strings.Join(slices.Concat(words[:i], []string{s}, words[i+1:]), " "))
				}
			}
			if w == "reviewer" {
				for _, s := range []string{"Reviewer", "translators", "none", "1", "x"} {
					wrong = append(wrong, strings.Join(slices.Concat(words[:i], []string{s}, words[i+1:]), " "))
				}
			}
		}
		for _, first := range wrong {
			if x.first == "verify" && first == short {
				continue // the empty text, which is asked below
			}
			if first == "show O de\r" || first == "analyze L dog\r" || first == "translate S M the dog\r" || first == "lang O fr\r" || first == "test C O de\r" {
				continue // any words may stand there
			}
			refusedText(t, d, first+"\n"+body[x.lines], api.ErrForm)
		}
	}
	for _, s := range []string{"", "\n", "\n\n", "\nverify", " ", "|", "|verify", "#", "# verify", "do", "verify verify", "Verify", "verifyy", "\xff", "\x00", "lexicon", "lexicon  ", "lex L"} {
		refusedText(t, d, s, api.ErrForm)
	}
}

// P10.2: bodies where there is none, none where there is one, and lines that do not begin with |.
func TestBodies(t *testing.T) {
	d := laid(t, "p A. B\n")
	for _, x := range forms {
		wrong := []string{"\n\n", "\nx", "\n ", "\n |", "\n#", "\n\n|", "\n|\n\n", "\n|\nx", "\n|\n\n|", "\n|\nx\n|", "\n||\n \n"}
		if x.lines == 0 {
			wrong = append(wrong, "\n|", "\n|x\n", "\n|\n|\n")
		}
		if x.lines == 1 {
			wrong = append(wrong, "", "\n", "\n|x\n|y", "\n|\n|\n", "\n|x\n|y\n|z\n")
		}
		for _, s := range wrong {
			refusedText(t, d, x.first+s, api.ErrForm)
		}
	}
}

// P10.2: a line feed behind the last line is not needed, and begins no line.
func TestLineFeeds(t *testing.T) {
	for _, end := range []string{"", "\n"} {
		d := desk.New()
		for _, x := range [][2]string{
			{"verify", "verified 0"},
			{"lexicon L\n|" + strings.ReplaceAll(strings.TrimSpace(plainText), "\n", "\n|"), "lexicon L: 1 entries"},
			{"model M\n|", "model M: 1 words 1 pairs"},
			{"model N\n|a\n|", "model N: 2 words 3 pairs"},
			{"rules R", "rules R: 0 rules"},
			{"checks C", "checks C: 0 checks"},
			{"terms B", "terms B: 0 concepts"},
			{"office O R", "office O: 0 segments"},
			{"office P R\n|p \n|p a|b", "office P: 2 segments"},
			{"lang O de", "O: done"},
			{"source O\n|p |\n|h1 ", "O: done"},
			{"show O de", "show O de\np |\nh1 \n"},
		} {
			if answer, e := d.Do(x[0] + end); e != api.OK || answer != x[1] {
				t.Errorf("%q: %q, error %d, want %q", x[0]+end, answer, e, x[1])
			}
		}
	}
}

// P10.2: counts up to the greatest one are of the form.
func TestCounts(t *testing.T) {
	d := laid(t, "p A. B\n")
	for _, s := range []string{"2", "10", "999999999"} {
		refused(t, d, "lock O ann de "+s, "", api.ErrNone)
		refused(t, d, "draft O ann de "+s+" S M", "", api.ErrNone)
	}
	done(t, d, "lock O ann de 1", "lock O ann de 0")
	for _, s := range []string{"0", "9", "999999999"} {
		refused(t, d, "pick O ann de 0 "+s, "", api.ErrNone)
	}
}

// P10.2: names that are there, or not, or those of things of another kind, in the order of the errors.
func TestNames(t *testing.T) {
	d := laid(t, "p A. B\n")
	things := []string{"L", "S", "M", "B", "R", "C", "O"}
	lines := map[int]string{1: "|x\n", 2: "|p x\n"}
	for _, x := range forms {
		body := lines[x.lines]
		words := strings.Split(x.first, " ")
		for i, w := range words {
			if w == "N" {
				for _, name := range things { // the new name is there
					words[i] = name
					refusedText(t, d, strings.Join(words, " ")+"\n"+body, api.ErrTwice)
					if len(words) > 2 { // and another one is not
						again := slices.Clone(words)
						again[2] = "nope"
						refusedText(t, d, strings.Join(again, " ")+"\n"+body, api.ErrTwice)
					}
				}
			} else if len(w) == 1 && 'A' <= w[0] && w[0] <= 'Z' {
				for _, name := range append(things, "nope", "l", "LL") { // it is not there, or of another kind
					if name == w || w == "T" && name == "L" {
						continue
					}
					words[i] = name
					refusedText(t, d, strings.Join(words, " ")+"\n"+body, api.ErrNone)
				}
			}
			words[i] = w
		}
	}
	// The form comes ahead of names, and a name ahead of what is done.
	refused(t, d, "system L L nope x", "", api.ErrForm)
	refused(t, d, "system L L 1", "", api.ErrForm)
	refused(t, d, "copy O O", "x\n", api.ErrForm)
	refused(t, d, "system N N L", rulesText, api.ErrNone) // the new name is not there yet
	refused(t, d, "copy N N", "", api.ErrNone)
	refused(t, d, "system N L L2", "wrong", api.ErrNone)
	refused(t, d, "lexicon L", "wrong", api.ErrTwice)
	refused(t, d, "lexicon N", "wrong", api.ErrForm)
	refused(t, d, "lock nope eve fr 7", "", api.ErrNone)
}

// P10.2: as many names as there may be, and one more, which is an error behind those of names and ahead of that of what is done.
func TestManyNames(t *testing.T) {
	d := laid(t, "p A. B\n")
	for i := len(d.Names()); i < api.MaxNamed; i++ {
		did(t, d, fmt.Sprintf("copy O%d O", i), "")
	}
	if n := len(d.Names()); n != api.MaxNamed {
		t.Fatal(n)
	}
	bodies := map[string]string{"lexicon N": plainText, "system N L T": rulesText, "terms N": termsText, "office N R": "p x\n"}
	for _, x := range forms {
		if strings.Contains(x.first, " N") {
			refused(t, d, x.first, bodies[x.first], api.ErrLimit)
			if x.lines > 0 {
				refused(t, d, x.first, "wrong", api.ErrLimit)
			}
		}
	}
	refused(t, d, "copy O O", "", api.ErrTwice)
	refused(t, d, "copy N P", "", api.ErrNone)
	refused(t, d, "merge N O O L", "", api.ErrNone)
	refused(t, d, "copy 1 P", "", api.ErrForm)
	done(t, d, "lang O31 fr", "lock O ann de 0") // what gives no name goes on
	answered(t, d, "analyze L dog", "analyze dog: dog/0 [0]")
}

// P10.2: texts with as many bytes as there may be, and one more, which is an error ahead of all others.
func TestLongTexts(t *testing.T) {
	d := desk.New()
	did(t, d, "rules R", "")
	first := "office O R\n|raw "
	s := first + strings.Repeat("x", api.MaxText-len(first))
	refusedText(t, d, s+"x", api.ErrLimit)
	refusedText(t, d, s+"\n", api.ErrLimit)
	if answer, e := d.Do(s); e != api.OK || answer != "office O: 0 segments" {
		t.Error(answer, e)
	}
	refusedText(t, d, strings.Repeat("\n", api.MaxText), api.ErrForm)
	refusedText(t, d, strings.Repeat("\n", api.MaxText+1), api.ErrLimit)
	refusedText(t, d, strings.Repeat("x", api.MaxText), api.ErrForm)
	refusedText(t, d, strings.Repeat("x", api.MaxText+1), api.ErrLimit)
}

// P10.2: desks that New did not make.
func TestNoDesk(t *testing.T) {
	var none *desk.Desk
	for _, d := range []*desk.Desk{none, {}} {
		for _, s := range []string{"verify", "rules R", "", strings.Repeat("x", api.MaxText+1)} {
			if answer, e := d.Do(s); e != api.ErrNil || answer != "" {
				t.Errorf("%.10q: %q, error %d", s, answer, e)
			}
		}
		if l := d.Proofs(); len(l) != 0 {
			t.Error(l)
		}
		if l := d.Names(); len(l) != 0 {
			t.Error(l)
		}
		if o, ok := d.Office("O"); ok || !office.Same(o, api.Office{}) {
			t.Error(o, ok)
		}
	}
}

// P10.2: what a desk tells of itself.
func TestTold(t *testing.T) {
	d := desk.New()
	if len(d.Names()) != 0 || len(d.Proofs()) != 0 {
		t.Error(d.Names(), d.Proofs())
	}
	d = laid(t, "p A. B\n")
	if l := d.Names(); !slices.Equal(l, []string{"L", "T", "S", "M", "B", "R", "C", "O"}) {
		t.Error(l)
	}
	for _, name := range append(d.Names(), "nope", "", "o", "OO") {
		if o, ok := d.Office(name); ok != (name == "O") || !ok && !office.Same(o, api.Office{}) {
			t.Error(name, o, ok)
		}
	}
	want := ran(officeOf(t, d, "O"), nil)
	did(t, d, "copy A O", "")
	done(t, d, "lock A ann de 0", "lang A fr", "lock O cy de 1")
	if o := officeOf(t, d, "A"); o.Cells[0][0].Lock != "ann" || o.Cells[0][1].Lock != "" || len(o.Langs) != 2 {
		t.Error(o)
	}
	want.Cells[0][1].Lock = "cy"
	if o := officeOf(t, d, "O"); !office.Same(o, want) {
		t.Error(o)
	}
	if l := d.Names(); !slices.Equal(l, []string{"L", "T", "S", "M", "B", "R", "C", "O", "A"}) {
		t.Error(l)
	}
}

// P0.1: desks do not influence one another.
func TestDesksApart(t *testing.T) {
	a, b := laid(t, "p A. B\n"), laid(t, "p A. B\n")
	done(t, a, "lock O ann de 0")
	did(t, a, "analyze L dog", "")
	did(t, a, "rules N", "")
	done(t, b, "lock O cy de 0")
	answered(t, b, "verify", "verified 0", "rules N", "rules N: 0 rules", "analyze L cat", "analyze cat: cat/0 [0]")
	answered(t, a, "verify", "verified 1")
}

package desk_test

import (
	"fmt"
	"slices"
	"strings"
	"testing"

	"truchman/api"
	"truchman/desk"
)

// P10.2: commands with remarks and empty lines between them, and between a command and its body.
func TestRun(t *testing.T) {
	const script = `
# a lexicon
lexicon L
# its body
|vowels aeiou

|class n

#|class n
|slot 0 - -
|entry cat n

|;entry dog n
analyze L cat
analyze L dog
 analyze L cat
#verify

rules R
|break ".%s" "%u"
office O R
|p A. B
# |p C
|# not a remark

|
office O R
# a remark behind an error
|p A. B
office P R
|p A. B
source P
|p A. B
|h1 #
lang P de
show P de
verify`
	want := []string{
		"lexicon L: 1 entries", "analyze cat: cat/0 [0]", "analyze dog: none", "error 4", "rules R: 1 rules", "error 4", "office O: 2 segments", "office P: 2 segments",
		"P: done", "P: done", "show P de\np A. B\nh1 #\n", "verified 1",
	}
	for _, end := range []string{"", "\n", "\n\n#\n", "\n# |"} {
		answers, proofs, e := desk.Run(script + end)
		if e != api.OK || !slices.Equal(answers, want) || len(proofs) != 1 || desk.Verify(proofs[0]) != api.OK {
			t.Errorf("%q: %q, %d certificates, error %d", end, answers, len(proofs), e)
		}
	}
	for _, s := range []string{"", "\n", "\n\n", "#", "#\n\n# x", "#|"} {
		if answers, proofs, e := desk.Run(s); e != api.OK || len(answers)+len(proofs) != 0 {
			t.Errorf("%q: %q, %v, error %d", s, answers, proofs, e)
		}
	}
	for s, want := range map[string]string{
		" ":                "error 4",
		" #":               "error 4",
		"\r":               "error 4",
		"verify\n |":       "verified 0,error 4",
		"verify\n|":        "error 4",
		"verify\nverify":   "verified 0,verified 0",
		"copy P O":         "error 7",
		"rules R\nrules R": "rules R: 0 rules,error 6",
		"model M\n|" + strings.Repeat(" a", 17)[1:]: "error 3",
		"model M": "error 1",
	} {
		answers, _, e := desk.Run(s)
		if got := strings.Join(answers, ","); e != api.OK || got != want {
			t.Errorf("%q: %q, error %d", s, got, e)
		}
	}
}

// P10.2: the errors of Run, in their order.
func TestRunErrors(t *testing.T) {
	many := strings.Repeat("verify\n", api.MaxScript)
	long := "rules R\n#" + strings.Repeat("x", api.MaxText-9)
	if answers, _, e := desk.Run(many + "\n# x\n"); e != api.OK || len(answers) != api.MaxScript {
		t.Error(len(answers), e)
	}
	if answers, _, e := desk.Run(long); e != api.OK || len(long) != api.MaxText || len(answers) != 1 {
		t.Error(len(long), answers, e)
	}
	for _, x := range []struct {
		text string
		want api.Errno
	}{
		{"|", api.ErrForm},
		{"|\n", api.ErrForm},
		{"\n#\n\n|verify", api.ErrForm},
		{"|x\n" + many + "verify", api.ErrForm},
		{many + "verify", api.ErrLimit},
		{many + "x\n|", api.ErrLimit},
		{long + "x", api.ErrLimit},
		{long + "\n", api.ErrLimit},
		{"|" + long, api.ErrLimit},
		{strings.Repeat("\n", api.MaxText+1), api.ErrLimit},
	} {
		if answers, proofs, e := desk.Run(x.text); e != x.want || len(answers)+len(proofs) != 0 {
			t.Errorf("%.40q: %q, %v, error %d, want %d", x.text, answers, proofs, e, x.want)
		}
	}
}

// P10.5: commands that return an error change nothing: others answer as if they had not been there.
func TestRefusedAmong(t *testing.T) {
	good := []string{
		text("lexicon L", englishText), text("lexicon T", germanText), text("system S L T", rulesText), text("model M", "der hund\n"),
		text("terms B", termsText), text("rules R", breaksText), text("checks C", checksText), text("office O R", "p The dog see the dogs. <b>A</b>\n"),
		"lang O de", "person O ann de translator", "person O bob de reviewer", "lock O ann de 1", text("edit O ann de 1", "<b>x</b>\n"), "free O ann de 1",
		"copy P O", "approve O bob de 1", "analyze L dogs", "translate S M the dog see the dogs", "test C O de", "issues B O de - en L T",
		"copy E P", "merge Q E O P", "show O de", "show Q de", "verify",
	}
	bad := []string{
		text("lexicon L", plainText), text("lexicon X", "x"), text("system X L T", "x"), text("model X", ""), text("terms X", "x"), text("rules X", "x"),
		text("checks X", "x"), text("office X R", "x"), "lang O de", "person O ann de translator", "lock O ann de 1", text("edit O ann de 1", "x"),
		"copy O P", "copy X Y", "approve O ann de 1", "analyze L größe", "translate S M größe", "test C O it", "issues B O de nope en L T", "merge X E O R",
		"merge X O E E", "show O it", text("source O", "x"), "draft O ann de 0 S M", "pick O ann de 1 7", "reopen O ann de 1", "verify it", "",
	}
	d := desk.New()
	var want []string
	for _, s := range good {
		answer, e := d.Do(s)
		if e != api.OK {
			t.Fatalf("%s: error %d", s, e)
		}
		want = append(want, answer)
	}
	errors := 0
	for i := range good {
		again := replayed(t, good[:i])
		for _, x := range bad {
			before := told(again)
			if _, e := again.Do(x); e == api.OK { // it is not wrong here
				again = replayed(t, good[:i])
				continue
			}
			errors++
			if told(again) != before {
				t.Errorf("%s: changed", x)
			}
		}
		for j, s := range good[i:] {
			if answer, e := again.Do(s); e != api.OK || answer != want[i+j] {
				t.Errorf("%s: %q, error %d, want %q", s, answer, e, want[i+j])
			}
		}
		if told(again) != told(d) {
			t.Errorf("behind %s: not the same", good[i])
		}
	}
	if errors < len(good)*len(bad)*9/10 {
		t.Error("few errors:", errors)
	}
}

// replayed is a desk that has done these commands.
func replayed(t *testing.T, l []string) *desk.Desk {
	t.Helper()
	d := desk.New()
	for _, s := range l {
		if _, e := d.Do(s); e != api.OK {
			t.Fatalf("%s: error %d", s, e)
		}
	}
	return d
}

// spoil changes all of a certificate where it stands, so that nothing with memory in common stays as it was.
func spoil(c api.Certificate) {
	for _, l := range []api.Lexicon{c.Lexicon, c.System.Source, c.System.Target} {
		for _, x := range l.Traits {
			clear(x.Values)
		}
		for _, x := range l.Classes {
			for _, y := range x.Slots {
				clear(y.Feats)
			}
			clear(x.Slots)
		}
		for _, x := range l.Entries {
			clear(x.Feats)
			clear(x.Forms)
		}
		for _, x := range l.Links {
			clear(x.Feats)
		}
		clear(l.Traits)
		clear(l.Classes)
		clear(l.Entries)
		clear(l.Spells)
		clear(l.Links)
	}
	for _, x := range c.Analyses {
		clear(x.Firsts)
	}
	for _, x := range c.System.Rules {
		clear(x.Parts)
		clear(x.Source)
		clear(x.Target)
		clear(x.Equations)
	}
	for _, x := range c.Reasons {
		clear(x.Bounds)
	}
	clear(c.Analyses)
	clear(c.System.Rules)
	clear(c.Model.Words)
	clear(c.Model.Pairs)
	clear(c.Words)
	spoilTree(c.Tree)
	clear(c.Proof)
	clear(c.Pair.Source)
	clear(c.Pair.Target)
	clear(c.Reasons)
	for _, o := range []api.Office{c.Base, c.A, c.B, c.Merged} {
		spoilOffice(o)
	}
}

func spoilTree(t api.Tree) {
	for _, kid := range t.Kids {
		spoilTree(kid)
	}
	clear(t.Kids)
	clear(t.From.Firsts)
}

func spoilOffice(o api.Office) {
	for _, b := range o.Source.Blocks {
		clear(b.Pieces)
	}
	for _, row := range o.Cells {
		for _, c := range row {
			clear(c.Others)
		}
		clear(row)
	}
	clear(o.Source.Blocks)
	clear(o.Rules)
	clear(o.Langs)
	clear(o.People)
	clear(o.Cells)
	clear(o.Shelf)
}

// apart holds that the lexicons of a certificate's system, and its offices, have no memory in common. It spoils all of them but one.
func apart(t *testing.T, c api.Certificate) {
	t.Helper()
	target := fmt.Sprintf("%+v", c.System.Target)
	spoil(api.Certificate{Lexicon: c.System.Source})
	if fmt.Sprintf("%+v", c.System.Target) != target {
		t.Errorf("%+v: lexicons", c)
	}
	offices := []api.Office{c.Base, c.A, c.B, c.Merged}
	for i := range offices {
		rest := fmt.Sprintf("%+v", offices[i+1:])
		spoilOffice(offices[i])
		if fmt.Sprintf("%+v", offices[i+1:]) != rest {
			t.Errorf("%+v: offices", c)
		}
	}
}

// P10.2 (R4): results have no memory in common with a desk, or with one another.
func TestMemory(t *testing.T) {
	d := desk.New()
	rich := strings.NewReplacer("entry cat noun\n", "entry cat noun\nform 1 cats\n", "entry red adj\n", "entry red adj num=sg\nspell x y - -\n")
	did(t, d, "lexicon L", rich.Replace(englishText))
	did(t, d, "lexicon T", germanText)
	did(t, d, "system S L T", rulesText)
	did(t, d, "system S2 L L", "start S\nrule S 0\nlex dog dog\nsource 1\ntarget 1\n")
	did(t, d, "model M", "der hund\n")
	did(t, d, "rules R", breaksText)
	did(t, d, "checks C", "a 1 all w in words(source): w in words(target)\n")
	did(t, d, "office O R", "p A. B. C\n")
	staff(t, d, "O")
	did(t, d, "copy E O", "")
	wrote(t, d, "O", 0, "a", true)
	wrote(t, d, "O", 1, "b", false)
	wrote(t, d, "O", 1, "c", true)
	did(t, d, "source O", "p D. B. C\n")
	for _, first := range []string{"analyze L dogs", "analyze L dogdogs", "translate S M " + theWords, "translate S2 M catdog", "translate S M the dogs see the red cat", "test C O de", "merge P E O O", "merge Q O O P", "copy O2 O"} {
		did(t, d, first, "")
	}
	want, names := told(d), d.Names()
	for i := range d.Proofs() {
		l := d.Proofs()
		ahead, behind := fmt.Sprintf("%+v", l[:i]), fmt.Sprintf("%+v", l[i+1:])
		apart(t, l[i])
		spoil(l[i])
		if fmt.Sprintf("%+v", l[:i]) != ahead || fmt.Sprintf("%+v", l[i+1:]) != behind {
			t.Errorf("certificate %d has memory in common with another one", i)
		}
	}
	for _, name := range names {
		o, _ := d.Office(name)
		spoilOffice(o)
	}
	clear(d.Names())
	if told(d) != want || !slices.Equal(d.Names(), names) {
		t.Error("changed")
	}
	answered(t, d, "verify", "verified 8", "analyze L dogs", "analyze dogs: dog/1 [8]")
	// Nor are arguments of Ties and Verify changed, or kept.
	s, x := given(), tree(theTree)
	a, _ := desk.Ties(s, x)
	b, _ := desk.Ties(s, x)
	clear(a)
	if written(b) != "1-1 2-4 4-3" || fmt.Sprintf("%+v", s) != fmt.Sprintf("%+v", given()) || fmt.Sprintf("%+v", x) != fmt.Sprintf("%+v", tree(theTree)) {
		t.Error(b)
	}
	for _, c := range d.Proofs() {
		slices.Reverse(c.Analyses)
		before := fmt.Sprintf("%+v", c)
		if e := desk.Verify(c); e != api.OK || fmt.Sprintf("%+v", c) != before {
			t.Error(e, c)
		}
	}
}

package desk_test

import (
	"fmt"
	"strings"
	"testing"

	"truchman/api"
	"truchman/desk"
	"truchman/docs"
)

// drafting is a desk with a system S of these rules over the words a to f, a model M of no words, and an office O of a document, in which ann has locked the segment 0.
func drafting(t *testing.T, rules, document string) *desk.Desk {
	t.Helper()
	return draftingBy(t, breaksText, rules, document)
}

// greatBreak is a rule that breaks ahead of great letters. The words of a segment then need no mark at its end, which would be tied to nothing.
const greatBreak = "break \"%s\" \"%u\"\n"

func draftingBy(t *testing.T, breaks, rules, document string) *desk.Desk {
	t.Helper()
	d := desk.New()
	did(t, d, "lexicon L", lettersText)
	did(t, d, "system S L L", rules)
	did(t, d, "model M", "\n")
	did(t, d, "rules R", breaks)
	did(t, d, "office O R", document)
	staff(t, d, "O")
	done(t, d, "lock O ann de 0")
	return d
}

// swapText are rules that exchange the words around a b, and give x no word.
const swapText = `start S
rule S 0
lex a a
lex c c
source 1 =b 2
target 2 =b 1
rule S 0
lex a a
source =x 1
target 1
rule S 0
source =x
target
rule S 0
lex a a
source =y 1
target =y =( 1 =) =.
`

// P10.2: drafts of segments with tags, holes and marks.
func TestDraft(t *testing.T) {
	for segment, want := range map[string]string{
		"a b c":                        "c b a",
		"A b c":                        "C b a",
		"A B C":                        "C b a",
		"a B C":                        "c b a",
		"As b cs":                      "C b a", // the slots of all forms are alike to this system
		"<b>a</b> b c":                 "c b <b>a</b>",
		"<b>A</b> b <i>c</i>":          "<i>C</i> b <b>a</b>",
		"<b>a b</b> c":                 "c b <b>a</b>",
		"a <b>b</b> c":                 "c b a<b></b>",
		"<b><i>a</i> b c</b>":          "<b>c b <i>a</i></b>",
		"a b c<br/>":                   "c b a<br/>",
		"<br/>a b c":                   "<br/>c b a",
		"  a   b    c  ":               "c b a",
		"a <x/> b <x/><b><b>c</b></b>": "<b><b>c</b></b> b a<x/><x/>",
		"x a":                          "a",
		"X a":                          "A",
		"x <b>a</b>":                   "<b>a</b>",
		"<b>x</b> a":                   "<b></b>a",
		"x":                            "",
		"X":                            "",
		"<b>X</b>":                     "<b></b>",
		"Y a":                          "Y (a).",
		"y <b>a</b>":                   "y (<b>a</b>).",
		"abc b c":                      "error 7", // a compound has no lemma of its own, but that of its last part, which is c
	} {
		d := drafting(t, swapText, "p "+segment+"\n")
		answer, e := d.Do("draft O ann de 0 S M")
		if e != api.OK {
			answer = fmt.Sprint("draft: error ", int(e))
		}
		if answer != "draft: "+want {
			t.Errorf("%s: %q, want %q", segment, answer, want)
		}
		if e == api.OK {
			o := officeOf(t, d, "O")
			c := o.Cells[0][0]
			if c.Text != want || c.State != api.CeDraft || c.Author != "ann" || c.Lock != "ann" {
				t.Errorf("%s: %+v", segment, c)
			}
		}
	}
}

// P10.2: what stands in a draft behind one that was there.
func TestDraftAgain(t *testing.T) {
	d := draftingBy(t, greatBreak, swapText, "p <b>a b c A b cs</b>\n")
	done(t, d, "lock O ann de 1", "free O ann de 0", "lock O cy de 0")
	answered(t, d, "draft O cy de 0 S M", "draft: <b>c b a</+b>", "draft O ann de 1 S M", "draft: <+b>C b a</b>")
	did(t, d, "edit O cy de 0", "<b>x</+b>")
	answered(t, d, "draft O cy de 0 S M", "draft: <b>c b a</+b>", "draft O cy de 0 S M", "draft: <b>c b a</+b>")
	c := officeOf(t, d, "O").Cells[0][0]
	if len(c.Others) != 1 || c.Others[0].Text != "<b>x</+b>" || c.Text != "<b>c b a</+b>" {
		t.Errorf("%+v", c)
	}
	did(t, d, "source O", "p <b>a b c B</b>\n")
	answered(t, d, "draft O cy de 0 S M", "draft: <b>c b a</+b>")
	if c := officeOf(t, d, "O").Cells[0][0]; c.Since != 1 {
		t.Errorf("%+v", c)
	}
	done(t, d, "free O cy de 0", "approve O bob de 0", "lock O ann de 0")
	refused(t, d, "draft O ann de 0 S M", "", api.ErrState)
	answered(t, d, "show O de", "show O de\np <b>c b aB</b>\n", "verify", "verified 0")
}

// P10.2: words that are none of morph, also those that a change of letters would make one.
func TestDraftWords(t *testing.T) {
	rules := "start S\nrule S 0\nsource =k\ntarget =k\nrule S 0\nsource =z =a\ntarget =z\nrule S 0\nsource =3d\ntarget =x9\nrule S 0\nsource ={n}\ntarget =={n}\nrule S 0\nsource =<\ntarget =\\ =<\n" +
		"rule S 0\nsource =a ={n}\ntarget ={n} =a\nrule S 0\nsource =" + strings.Repeat("a", 24) + "\ntarget =a\n"
	for segment, want := range map[string]string{
		"k":                             "k",
		"K":                             "K",
		"z a":                           "z",
		"Z A":                           "Z",
		"z A":                           "z",
		"\u212a":                        "error 9", // the sign of Kelvin
		"größe":                         "error 9",
		"k ä":                           "error 9",
		"3d":                            "x9",
		"3D":                            "x9", // it begins with no letter
		"{n}":                           "error 4",
		"\\<":                           "\\\\ \\<",
		"A {n}":                         "{n} a", // the hole has no letter that may be great
		"a {n}":                         "{n} a",
		strings.Repeat("a", 24):         "a",
		strings.Repeat("A", 24):         "A",
		strings.Repeat("a", 25):         "error 9",
		strings.Repeat("! ", 16):        "error 7",
		strings.Repeat("! ", 17):        "error 3",
		strings.Repeat("! ", 512) + "ä": "error 3",
		strings.Repeat("! ", 511) + "ä": "error 9",
		"":                              "error 7",
		"<b/>":                          "error 7",
		"b":                             "error 7",
	} {
		d := drafting(t, rules, "p "+segment+"\n")
		answer, e := d.Do("draft O ann de 0 S M")
		if e != api.OK {
			answer = fmt.Sprint("draft: error ", int(e))
		}
		if answer != "draft: "+want {
			t.Errorf("%s: %q, want %q", segment, answer, want)
		}
	}
}

// P10.2: the errors of drafts, in their order.
func TestDraftErrors(t *testing.T) {
	d := drafting(t, swapText, "p a b c\np ä\np a\np a b c\n")
	for _, x := range []struct {
		first string
		want  api.Errno
	}{
		{"draft O ann de 4 S M", api.ErrNone},
		{"draft O eve fr 4 S M", api.ErrNone},
		{"draft O eve fr 1 S M", api.ErrScope}, // ahead of the language that is not there
		{"draft O bob de 1 S M", api.ErrScope},
		{"draft O bob de 2 S M", api.ErrNone}, // ahead of somebody who is no translator
		{"draft O eve fr 0 S M", api.ErrNone},
		{"draft O bob de 0 S M", api.ErrScope},
		{"draft O eve de 0 S M", api.ErrScope},
		{"draft O cy de 0 S M", api.ErrState},
		{"draft O ann de 3 S M", api.ErrState},
	} {
		refused(t, d, x.first, "", x.want)
	}
	// Derive does not accept a tree that is too deep.
	deeper, _ := chained(api.MaxDepth + 1)
	refused(t, drafting(t, deeper, "p x a\n"), "draft O ann de 0 S M", "", api.ErrLimit)
	// What Project refuses: words that are none of a document, tags, brothers that meet, carried tags inside, too many words.
	long := "start S\nrule S 0\ncat A0\ncat A0\nsource 1 2\ntarget 1 2\n"
	for i := range 40 {
		long += fmt.Sprintf("rule A%d 0\ncat A%d\nsource 1\ntarget =x =x =x =x =x =x =x 1\n", i, i+1)
	}
	long += "rule A40 0\nsource =a\ntarget =b\n"
	apart := "start S\nrule S 0\nlex a a\nlex b b\nlex c c\nlex d d\nsource 1 2 3 4\ntarget 1 3 2 4\n"
	for _, x := range []struct {
		rules, document string
		want            api.Errno
	}{
		{"start S\nrule S 0\nsource =a\ntarget =a-b\n", "p a\n", api.ErrForm},
		{"start S\nrule S 0\nsource =a\ntarget =<b/>\n", "p a\n", api.ErrArg},
		{apart, "p <b>a b</b> <b>c d</b>\n", api.ErrClash},
		{apart, "p <b>a b c</b> d\n", api.OK},
		{"start S\nrule S 0\nlex a a\nlex b b\nsource 1 =. 2\ntarget 2 =. 1\n", "p <b>a. b</b>\n", api.OK},
		{"start S\nrule S 0\ncat A\ncat A\ncat A\nsource 1 2 3\ntarget 3 2 1\nrule A 0\nlex a a\nsource 1\ntarget 1\nrule A 0\nsource =.\ntarget =.\n", "p a <b>a. A</b>\n", api.ErrState},
		{long, "p a a\n", api.ErrLimit},
	} {
		d := drafting(t, x.rules, x.document)
		if x.want == api.OK {
			did(t, d, "draft O ann de 0 S M", "")
		} else {
			refused(t, d, "draft O ann de 0 S M", "", x.want)
		}
	}
	// More texts beside the cell's own than there may be.
	d = drafting(t, swapText, "p a b c\n")
	for i := range api.MaxOthers + 1 {
		did(t, d, "edit O ann de 0", fmt.Sprint(i))
	}
	refused(t, d, "draft O ann de 0 S M", "", api.ErrLimit)
}

// P10.4: what is drafted has the tags of its segment, each as often.
func TestDraftTags(t *testing.T) {
	r := dice()
	drafts := 0
	for range 300 {
		rules := "start S\nrule S 0\nlex a b\nsource 1\ntarget 1\nrule S 0\nlex b a\nsource 1\ntarget 1\nrule S 0\nlex c c\nsource 1\ntarget =y 1\n"
		rules += "rule S 0\nsource =x\ntarget\nrule S 0\nsource =y\ntarget =y =y\nrule S 0\ncat S\nsource 1 =.\ntarget 1 =.\n"
		rules += "rule S 1\ncat S\ncat S\nsource 1 2\ntarget " + pick(r, "1 2", "2 1", "2 =, 1") + "\n"
		document := "p "
		for range 1 + r.IntN(5) {
			w := pick(r, "a", "b", "c", "x", "y", "A", "X", "As")
			document += pick(r, w, w, "<b>"+w+"</b>", "<i>"+w+" "+w+"</i>", w+"<br/>", "<b><i>"+w+"</i> a</b>", "<b>"+w+". A</b>", "<u/>"+w) + " "
		}
		d := draftingBy(t, greatBreak, rules, document+"\n")
		o := officeOf(t, d, "O")
		segments, _ := docs.Segments(o.Source, o.Rules)
		for i, x := range segments {
			if i > 0 {
				done(t, d, fmt.Sprint("lock O ann de ", i))
			}
			answer, e := d.Do(fmt.Sprintf("draft O ann de %d S M", i))
			if e != api.OK {
				continue
			}
			drafts++
			got, want := tagsOf(pieces(strings.TrimPrefix(answer, "draft: "))), tagsOf(x.Pieces)
			if fmt.Sprint(got) != fmt.Sprint(want) {
				t.Fatalf("%s: %q: %v, of %v", document, answer, got, want)
			}
		}
	}
	if drafts < 300 {
		t.Error("few drafts:", drafts)
	}
}

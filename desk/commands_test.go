package desk_test

import (
	"fmt"
	"slices"
	"strconv"
	"strings"
	"testing"

	"truchman/api"
	"truchman/checks"
	"truchman/decode"
	"truchman/desk"
	"truchman/docs"
	"truchman/office"
	"truchman/train"
)

// made holds what commands answer that make things, or their errors, in a desk in which each other name is there.
func made(t *testing.T, first string, bodies map[string]string) {
	t.Helper()
	for body, want := range bodies {
		d := laid(t, "p A. B\n")
		if n, err := strconv.Atoi(want); err == nil {
			refused(t, d, first, body, api.Errno(n))
		} else if got := did(t, d, first, body); got != want {
			t.Errorf("%s\n%s\n%q, want %q", first, body, got, want)
		} else if l := d.Names(); len(l) != 9 || l[8] != "N" {
			t.Error(l)
		}
	}
}

// P10.2: lexicons, systems and termbases are read by the functions of their packages.
func TestMakeTexts(t *testing.T) {
	made(t, "lexicon N", map[string]string{
		plainText:                           "lexicon N: 1 entries",
		englishText:                         "lexicon N: 4 entries",
		"; none\n\nvowels -\n":              "lexicon N: 0 entries",
		"":                                  "4",
		"x\n":                               "4",
		"vowels ba\n":                       "1",
		plainText + "entry x n\n":           "6",
		"vowels a\nclass n\nclass m\nx\n":   "4",
		"vowels a\nclass 1\nslot 0 - -\n":   "5",
		"vowels a\ntrait a b\nclass n\n":    "1",
		"vowels a\nentry x n\n":             "5",
		"vowels a\nclass n\nslot 1000 - -":  "4",
		"vowels a\nclass n\n slot 0 - -\n":  "4",
		"vowels a\nclass n\nslot 0 - - a=b": "5",
	})
	made(t, "system N L T", map[string]string{
		rulesText:   "system N: 4 rules",
		"start S\n": "system N: 0 rules",
		"":          "4",
		"start\n":   "4",
		"start 1\n": "5",
		"start S\nrule S 0\nlex hund dog\nsource 1\ntarget 1\n": "7", // the lexicons are in the order of the words
		"start S\nrule S 0\nsource\ntarget\n":                   "1",
		"start S\nrule S 0\ncat S\nsource 1\ntarget 1\n":        "12",
		"start S\nrule S 0\nlex dog hund\nsource 1\ntarget 1 1": "6",
	})
	made(t, "system N T L", map[string]string{
		rulesText: "7",
		"start S\nrule S 0\nlex hund dog\nsource 1\ntarget 1\n": "system N: 1 rules",
	})
	made(t, "system N L L", map[string]string{"start S\nrule S 0\nlex dog dog\nsource 1\ntarget 1\n": "system N: 1 rules"})
	made(t, "terms N", map[string]string{
		termsText:              "terms N: 2 concepts",
		"":                     "terms N: 0 concepts",
		"domain a\n":           "terms N: 0 concepts",
		"x\n":                  "4",
		"\n":                   "4",
		"domain a\ndomain a\n": "6",
		"concept a b\n":        "7",
		"domain a\nconcept a a\nterm 1 allowed a\n":         "5",
		"domain a\nconcept a a\nterm a allowed a a a a a\n": "3",
	})
}

// P10.2: models of sentences, a line each.
func TestMakeModel(t *testing.T) {
	made(t, "model N", map[string]string{
		"der hund der hunde sehen\n": "model N: 5 words 6 pairs",
		"a b\na\n":                   "model N: 3 words 4 pairs",
		"\n":                         "model N: 1 words 1 pairs",
		"a\n\n\n":                    "model N: 2 words 3 pairs",
		"":                           "1", // no sentence
		" a\n":                       "1",
		"a \n":                       "1",
		"a  b\n":                     "1",
		" \n":                        "1",
		"a\tb\n":                     "1",
		"é\n":                        "1",
		strings.Repeat("a", 24):      "model N: 2 words 2 pairs",
		strings.Repeat("a", 25):      "1",
		strings.Repeat(" a", 16)[1:]: "model N: 2 words 3 pairs",
		strings.Repeat(" a", 17)[1:]: "3",
		strings.Repeat("a\n", 64):    "model N: 2 words 2 pairs",
		strings.Repeat("a\n", 65):    "3",
	})
	// The model is that of train.Build.
	d := desk.New()
	did(t, d, "lexicon L", plainText)
	did(t, d, "system S L L", "start S\nrule S 3\nsource =x\ntarget =a =b =c\n")
	did(t, d, "model M", "a b\n\na\nb a b\n")
	m, _ := train.Build([][]string{{"a", "b"}, nil, {"a"}, {"b", "a", "b"}})
	n, _ := decode.Score(m, []string{"a", "b", "c"})
	answered(t, d, "translate S M x", fmt.Sprint("translate: a b c total ", n+3, " [0]"))
}

// P10.2: break rules, a line each.
func TestMakeRules(t *testing.T) {
	fits := `"` + strings.Repeat("a", api.MaxFits) + `"`
	more := `"` + strings.Repeat("a", api.MaxFits+1) + `"`
	made(t, "rules N", map[string]string{
		"":                                     "rules N: 0 rules",
		`break "" ""`:                          "rules N: 1 rules",
		"break \"a\" \"b\"\nkeep \"\" \"b\"\n": "rules N: 2 rules",
		`break " " " "`:                        "rules N: 1 rules",
		`keep "a b\" \\" "\"\\\\é"`:            "rules N: 1 rules",
		`break "%b%%" "%.%h"`:                  "rules N: 1 rules",
		`break ` + fits + ` ` + fits:           "rules N: 1 rules",
		`break ` + fits + ` ` + more:           "3",
		`break ` + more + ` ""`:                "3",
		`break ` + more + ` "%"`:               "3", // Before is ahead of After
		`break "%" ` + more:                    "4",
		`break "%x" ""`:                        "4",
		`break "" "a%"`:                        "4",
		strings.Repeat("keep \"\" \"\"\n", api.MaxBreaks):         "rules N: 64 rules",
		strings.Repeat("keep \"\" \"\"\n", api.MaxBreaks+1):       "3",
		strings.Repeat("keep \"\" \"\"\n", api.MaxBreaks+1) + "x": "4", // the form of all lines comes first
		"break " + more + " \"\"\nbreak \"\x01\" \"\"":            "4",
		"break " + more + " \"\"\nbreak \"%x\" \"\"":              "3",
		"\n":                  "4",
		`break`:               "4",
		`break "a"`:           "4",
		`break "a" `:          "4",
		`break "a""b"`:        "4",
		`break "a"  "b"`:      "4",
		`break  "a" "b"`:      "4",
		` break "a" "b"`:      "4",
		`break "a" "b" `:      "4",
		`break "a" "b" "c"`:   "4",
		`break "a" "b"c`:      "4",
		`break a "b"`:         "4",
		`break "a" b`:         "4",
		`break 'a' 'b'`:       "4",
		`break "a" "b`:        "4",
		`break "a" "b\"`:      "4",
		`break "a" "b\`:       "4",
		`break "a\n" "b"`:     "4",
		`break "a\b" "b"`:     "4",
		`break "a\ " "b"`:     "4",
		`break "a`:            "4",
		`break "a\" "b"`:      "4",
		`Break "a" "b"`:       "4",
		`breaks "a" "b"`:      "4",
		`"a" "b"`:             "4",
		"break \"\t\" \"\"":   "4",
		"break \"\" \"\x7f\"": "4",
		"keep \"\xff\" \"\"":  "4",
		"keep \"\" \"\r\"":    "4",
	})
	// Before and After are what they say, in their order, and keep is no break.
	for rule, want := range map[string]int{
		`break "a" "b"`:                      2,
		`break "b" "a"`:                      1,
		`break "" "\"b"`:                     2,
		`break "\\" ""`:                      2,
		`break "a " ""`:                      2,
		`keep "" "b"` + "\nbreak \"a\" \"\"": 1,
		`break "a" ""` + "\nkeep \"\" \"b\"": 2,
	} {
		d := desk.New()
		did(t, d, "rules R", rule)
		s := map[bool]string{true: "p ab", false: "p a b"}[!strings.Contains(rule, "a ")]
		if strings.Contains(rule, `"\"b"`) {
			s = `p a"b`
		}
		if strings.Contains(rule, `"\\"`) {
			s = `p a\\b`
		}
		if got := did(t, d, "office O R", s+"\n"); got != fmt.Sprintf("office O: %d segments", want) {
			t.Errorf("%s: %q", rule, got)
		}
		for _, b := range officeOf(t, d, "O").Rules {
			if b.Break != strings.Contains(rule, fmt.Sprintf("break %q %q", b.Before, b.After)) {
				t.Errorf("%s: %+v", rule, b)
			}
		}
	}
}

// P10.2: ratings, a line each.
func TestMakeChecks(t *testing.T) {
	lines := func(n int) string {
		out := ""
		for i := range n {
			out += fmt.Sprintf("c%d 1 1 == 1\n", i)
		}
		return out
	}
	made(t, "checks N", map[string]string{
		"":                                 "checks N: 0 checks",
		checksText:                         "checks N: 2 checks",
		"a 0 1==1":                         "checks N: 1 checks",
		"a 1000  1 == 1 ":                  "checks N: 1 checks",
		"größe 1 1 == 1":                   "checks N: 1 checks",
		lines(64):                          "checks N: 64 checks",
		lines(65):                          "3",
		lines(65) + "x":                    "4", // the form of all lines comes first
		"a 1001 1 == 1":                    "1",
		"a 999999999 1 == 1":               "1",
		"a 1000000000 1 == 1":              "4",
		"a 1001 1 == 1\nb 01 1 == 1":       "4",
		"a 1 1 == 1\na 1 1 == 1":           "6",
		"a 1 1 == 1\na 1001 (":             "6",
		"a 1001 (":                         "1",
		"a 1 (\na 1 1 == 1":                "4",
		"a 1 x == \"\"":                    "5",
		"a 1 1 == \"\"":                    "1",
		"a 1 " + strings.Repeat(" ", 1001): "3",
		"a\xff 1 1 == 1":                   "5",
		"a 1":                              "4",
		"a 1 ":                             "4",
		"a":                                "4",
		"\n":                               "4",
		" 1 1 == 1":                        "4",
		" a 1 1 == 1":                      "4",
		"a  1 1 == 1":                      "4",
		"a -1 1 == 1":                      "4",
		"a +1 1 == 1":                      "4",
		"a 01 1 == 1":                      "4",
		"a x 1 == 1":                       "4",
	})
}

// P10.2: offices, copies of them, and their numbers of segments.
func TestMakeOffice(t *testing.T) {
	made(t, "office N R", map[string]string{
		"":                            "office N: 0 segments",
		"p \n":                        "office N: 1 segments",
		"p A. B. C\nh1 <b>A. </b>B\n": "office N: 5 segments",
		"raw A. B\nli Dr. A. Dr. B\n": "office N: 2 segments",
		"x\n":                         "4",
		"\n":                          "4",
		"p <b>\n":                     "9",
		"p <+b>x</b>\n":               "8",
		"raw {n}\n":                   "1",
		strings.Repeat("p \n", 128):   "office N: 128 segments",
		strings.Repeat("p \n", 129):   "3",
		strings.Repeat("raw \n", 256): "office N: 0 segments",
		strings.Repeat("raw \n", 257): "3",
	})
	d := laid(t, "p A. <b>B\\<</b>\nraw x\n")
	want, e := office.New("p A. <b>B\\<</b>\nraw x\n", []api.Break{{Before: "%bDr.%s"}, {Before: ".%s", After: "%u", Break: true}})
	if e != api.OK {
		t.Fatal(e)
	}
	did(t, d, "office N R", "p A. <b>B\\<</b>\nraw x\n")
	if o := officeOf(t, d, "N"); !office.Same(o, want) {
		t.Errorf("%+v", o)
	}
	wrote(t, d, "O", 0, "a", true)
	answered(t, d, "copy P O", "office P: 2 segments")
	if !office.Same(officeOf(t, d, "O"), officeOf(t, d, "P")) || office.Same(officeOf(t, d, "O"), officeOf(t, d, "N")) {
		t.Error(officeOf(t, d, "P"))
	}
}

// P10.2: events, with the errors of office.Apply.
func TestEvents(t *testing.T) {
	d := laid(t, "p A. B\n")
	o := officeOf(t, d, "O")
	apply := func(first, body string, x api.Event) {
		t.Helper()
		if got := did(t, d, first, body); got != "O: done" {
			t.Errorf("%s: %q", first, got)
		}
		next, e := office.Apply(o, x)
		if e != api.OK {
			t.Fatal(e)
		}
		o = next
		if got := officeOf(t, d, "O"); !office.Same(got, o) {
			t.Errorf("%s: %+v, want %+v", first, got, o)
		}
	}
	on := func(kind api.EventKind, who string, segment int) api.Event {
		return api.Event{Kind: kind, Who: who, Lang: "de", Segment: segment}
	}
	with := func(x api.Event, text string, number int) api.Event {
		x.Text, x.Number = text, number
		return x
	}
	apply("lang O fr", "", api.Event{Kind: api.EvLanguage, Lang: "fr"})
	apply("person O eve fr translator", "", api.Event{Kind: api.EvPerson, Who: "eve", Lang: "fr", Role: api.RoTranslator})
	apply("person O eve fr reviewer", "", api.Event{Kind: api.EvPerson, Who: "eve", Lang: "fr", Role: api.RoReviewer})
	apply("lock O ann de 1", "", on(api.EvLock, "ann", 1))
	apply("edit O ann de 1", "b  \\< |\n", with(on(api.EvEdit, "ann", 1), "b  \\< |", 0))
	apply("edit O ann de 1", "\n", with(on(api.EvEdit, "ann", 1), "", 0))
	apply("edit O ann de 1", "c\n", with(on(api.EvEdit, "ann", 1), "c", 0))
	apply("pick O ann de 1 1", "", with(on(api.EvPick, "ann", 1), "", 1))
	apply("pick O ann de 1 0", "", with(on(api.EvPick, "ann", 1), "", 0))
	apply("free O ann de 1", "", on(api.EvFree, "ann", 1))
	apply("reject O bob de 1", "", on(api.EvReject, "bob", 1))
	apply("reopen O cy de 1", "", on(api.EvReopen, "cy", 1))
	apply("approve O cy de 1", "", on(api.EvApprove, "cy", 1))
	apply("source O", "h1 B. A\np C\n", newSource("h1 B. A\np C\n"))
	apply("source O", "", newSource(""))
	for _, x := range []struct {
		first, body string
		want        api.Errno
	}{
		{"lang O de", "", api.ErrTwice},
		{"lang O De", "", api.ErrName},
		{"lang O größe", "", api.ErrName},
		{"lang O abcdefghijklmnopqrstuvwxyz", "", api.ErrName},
		{"person O ann it translator", "", api.ErrNone},
		{"person O Ann de translator", "", api.ErrName},
		{"person O ann de translator", "", api.ErrTwice},
		{"lock O ann de 0", "", api.ErrNone},
		{"source O", "x\n", api.ErrForm},
		{"source O", "p <b>\n", api.ErrScope},
		{"source O", strings.Repeat("p \n", 129), api.ErrLimit},
	} {
		refused(t, d, x.first, x.body, x.want)
	}
	done(t, d, "person O bob de translator")
	did(t, d, "source O", "p A. <b>B</b>\n")
	done(t, d, "lock O ann de 1")
	for _, x := range []struct {
		first, body string
		want        api.Errno
	}{
		{"lock O ann de 1", "", api.ErrTwice},
		{"lock O bob de 1", "", api.ErrState},
		{"lock O dan de 1", "", api.ErrScope},
		{"lock O ann de 2", "", api.ErrNone},
		{"lock O ann it 1", "", api.ErrNone},
		{"free O bob de 1", "", api.ErrState},
		{"edit O bob de 1", "<b>b</b>\n", api.ErrState},
		{"edit O dan de 1", "<b>b</b>\n", api.ErrScope},
		{"edit O ann de 1", "b\n", api.ErrClash},
		{"edit O ann de 1", "<b>\n", api.ErrScope},
		{"edit O ann de 1", "<\n", api.ErrForm},
		{"pick O ann de 1 0", "", api.ErrNone},
		{"approve O cy de 1", "", api.ErrState},
		{"reject O cy de 1", "", api.ErrState},
		{"reopen O cy de 1", "", api.ErrState},
		{"approve O ann de 1", "", api.ErrScope},
		{"reject O ann de 1", "", api.ErrScope},
		{"reopen O ann de 1", "", api.ErrScope},
	} {
		refused(t, d, x.first, x.body, x.want)
	}
}

// P10.2: analyses of a word, and their certificate.
func TestAnalyze(t *testing.T) {
	d := laid(t, "")
	answered(t, d,
		"analyze L dogs", "analyze dogs: dog/1 [0]",
		"analyze L dogcats", "analyze dogcats: dog+cat/1 [1]",
		"analyze L catdogdog", "analyze catdogdog: cat+dog+dog/0 [2]",
		"analyze L redx", "analyze redx: none",
		"analyze L Dog", "analyze Dog: none",
		"analyze L dogscat", "analyze dogscat: none",
		"analyze L |", "analyze |: none",
		"analyze T sehen", "analyze sehen: seh/0 [3]",
		"verify", "verified 4",
	)
	refused(t, d, "analyze L größe", "", api.ErrArg)
	refused(t, d, "analyze L "+strings.Repeat("a", 25), "", api.ErrArg)
	did(t, d, "lexicon N", lettersText+"link n -\n")
	answered(t, d, "analyze N as", "analyze as: a/1 [4]", "analyze N ab", "analyze ab: a+b/0 a+b/0 [5]")
	c := d.Proofs()[5]
	if c.Kind != api.CtAnalysis || c.Word != "ab" || len(c.Analyses) != 2 || c.Analyses[1].Firsts[0].Link != 1 || len(c.Lexicon.Entries) != 6 || desk.Verify(c) != api.OK {
		t.Errorf("%+v", c)
	}
}

// P10.2: the best translations of sentences, and their certificates.
func TestTranslate(t *testing.T) {
	d := laid(t, "")
	answered(t, d, // the example of the chapter
		"translate S M the dog see the dogs", "translate: der hund der hunde sehen total 19 [0]",
		"verify", "verified 1",
		"translate S M dog", "translate: none",
		"translate S M", "translate: none",
		"translate S M the dogs see the red cat", "translate: der hunde der katz rot sehen total 38 [1]",
		"verify", "verified 2",
	)
	c := d.Proofs()[0]
	m, _ := train.Build([][]string{strings.Fields("der hund der hunde sehen")})
	want, _ := decode.Total(given(), m, tree(theTree))
	if c.Kind != api.CtTranslation || c.Total != want || !slices.Equal(c.Words, strings.Fields(theWords)) || c.System.Start != "S" || len(c.Model.Words) != 5 || len(c.Proof) == 0 {
		t.Errorf("%+v", c)
	}
	refused(t, d, "translate S M größe", "", api.ErrArg)
	refused(t, d, "translate S M "+strings.Repeat("a", 25), "", api.ErrArg)
	refused(t, d, "translate S M"+strings.Repeat(" a", 17), "", api.ErrLimit)
	answered(t, d, "translate S M"+strings.Repeat(" a", 16), "translate: none")

	did(t, d, "system S2 L L", "start S\nrule S 4\nsource =x\ntarget\nrule S 4\nsource =y\ntarget =a =b\nrule S 4\nsource =y\ntarget =b =a\n")
	did(t, d, "model M2", "b a\n")
	answered(t, d, "translate S2 M2 x", "translate: total 10 [2]", "translate S2 M2 y", "translate: b a total 10 [3]", "verify", "verified 4")
}

// P10.2: a proof with too many states is an error, also without a tree; a tree that Derive does not accept is one behind that.
func TestTranslateLimits(t *testing.T) {
	states := func(start string, more int) string { // "x y" has MaxStates states, and so many more
		var out strings.Builder
		out.WriteString("start " + start + "\n")
		for i := range 30 {
			fmt.Fprintf(&out, "rule X 1\nsource =x\ntarget =a%d\n", i)
		}
		for i := range 34 {
			fmt.Fprintf(&out, "rule Y 1\nsource =y\ntarget =b%d\n", i)
		}
		for i := range 16 {
			fmt.Fprintf(&out, "rule S%d 1\ncat X\ncat Y\nsource 1 2\ntarget 1 2\n", i)
		}
		for range more {
			out.WriteString("rule A 1\nsource =x\ntarget\n")
		}
		return out.String()
	}
	d := desk.New()
	did(t, d, "lexicon L", lettersText)
	did(t, d, "model M", "\n")
	did(t, d, "system S L L", states("S0", 0))
	did(t, d, "system S1 L L", states("S0", 1))
	did(t, d, "system N L L", states("N", 0))
	did(t, d, "system N1 L L", states("N", 1))
	if got := did(t, d, "translate S M x y", ""); !strings.HasPrefix(got, "translate: a0 b0 total ") {
		t.Error(got)
	}
	refused(t, d, "translate S1 M x y", "", api.ErrLimit)
	answered(t, d, "translate N M x y", "translate: none")
	refused(t, d, "translate N1 M x y", "", api.ErrLimit)
	deep, _ := chained(api.MaxDepth)
	deeper, _ := chained(api.MaxDepth + 1)
	did(t, d, "system D L L", deep)
	did(t, d, "system D1 L L", deeper)
	if got := did(t, d, "translate D M x a", ""); !strings.HasPrefix(got, "translate: x x a total ") {
		t.Error(got)
	}
	refused(t, d, "translate D1 M x a", "", api.ErrLimit)
	answered(t, d, "verify", "verified 2")
	// A draft asks for no proof.
	did(t, d, "rules R", "")
	did(t, d, "office O R", "p x y\n")
	staff(t, d, "O")
	done(t, d, "lock O ann de 0")
	if answer := did(t, d, "draft O ann de 0 S1 M", ""); answer != "draft: a0 b0" {
		t.Error(answer)
	}
	refused(t, d, "draft O ann de 0 N1 M", "", api.ErrNone)
}

// P10.2: the ratings of a language's pairs, and the certificate of the first finding.
func TestTest(t *testing.T) {
	d := laid(t, "p <b>A dog</b>. B c. C d\n")
	answered(t, d, "test C O de", "test C: 0 findings weigh 0")
	wrote(t, d, "O", 1, "hund x.", true)
	answered(t, d, "test C O de", "test C: 0 findings weigh 0", "verify", "verified 0")
	wrote(t, d, "O", 2, "hund", false)
	done(t, d, "reject O bob de 2")
	answered(t, d, "test C O de", "test C: 1 findings weigh 3 [0]")
	wrote(t, d, "O", 0, "<b>Ein</b> hun d.", false)
	answered(t, d, "test C O de", "test C: 3 findings weigh 26 [1]", "verify", "verified 2")
	first, second := d.Proofs()[0], d.Proofs()[1]
	if first.Kind != api.CtFailure || first.Formula != "size(words(source)) == size(words(target))" || docs.Plain(first.Pair.Source) != "C d" || docs.Plain(first.Pair.Target) != "hund" {
		t.Errorf("%+v", first)
	}
	if docs.Plain(second.Pair.Source) != "A dog. " || docs.Plain(second.Pair.Target) != "Ein hun d." || tagsOf(second.Pair.Source)["<b>"] != 1 || tagsOf(second.Pair.Target)["</b>"] != 1 {
		t.Errorf("%+v", second)
	}
	_, reasons, _ := checks.Explain(second.Formula, second.Pair)
	if len(reasons) != 1 || len(second.Reasons) != 1 || second.Reasons[0].Formula != reasons[0].Formula {
		t.Error(second.Reasons)
	}
	did(t, d, "checks D", "")
	answered(t, d, "test D O de", "test D: 0 findings weigh 0")
	// The second rating alone is failed, and cited.
	did(t, d, "checks E", "a 1 1 == 1\nb 7 \"z\" in words(target)\n")
	answered(t, d, "test E O de", "test E: 3 findings weigh 21 [2]")
	if c := proofOf(t, d); c.Formula != `"z" in words(target)` || desk.Verify(c) != api.OK {
		t.Errorf("%+v", c)
	}
	// A stale text counts too.
	did(t, d, "source O", "p <b>A dog</b>. B c. C\n")
	if o := officeOf(t, d, "O"); !o.Cells[0][2].Stale {
		t.Error(o)
	}
	answered(t, d, "test E O de", "test E: 3 findings weigh 21 [3]", "verify", "verified 4")

	refused(t, d, "test C O fr", "", api.ErrNone)
	refused(t, d, "test C O größe", "", api.ErrNone)
	done(t, d, "lang O fr")
	answered(t, d, "test C O fr", "test C: 0 findings weigh 0")
	wrote(t, d, "O", 2, strings.Repeat("! ", 512), false)
	answered(t, d, "test E O de", "test E: 3 findings weigh 21 [4]")
	wrote(t, d, "O", 2, strings.Repeat("! ", 513), false)
	refused(t, d, "test E O de", "", api.ErrLimit)
	refused(t, d, "test C O it", "", api.ErrNone)
}

// P10.2: terms in a language's pairs.
func TestIssues(t *testing.T) {
	d := laid(t, "p The dog. See dogs. Dog dog. X\n")
	wrote(t, d, "O", 1, "Rot sehen hund.", true)
	wrote(t, d, "O", 2, "Hund.", false)
	wrote(t, d, "O", 3, "Hunde seh sehen", false)
	answered(t, d,
		"issues B O de - en L T", "issues B: 4 0:3:0 1:1:0 2:2:0 2:2:1",
		"issues B O de zoo en L T", "issues B: 3 0:3:0 1:1:0 2:2:0",
		"issues B O de it en L T", "issues B: 1 2:2:1",
		"issues B O de - it L T", "issues B: 6 0:2:0 0:2:1 0:3:0 1:2:0 2:2:0 2:2:1",
		"verify", "verified 0",
	)
	// From the tongue Y with L, to the tongue X with L2.
	answered(t, d,
		"issues B O de - en T T", "issues B: 5 0:2:0 0:3:0 1:1:0 2:2:0 2:2:1",
		"issues B O de - en L L", "issues B: 4 0:1:1 0:3:0 1:1:0 2:2:1",
		"issues B O de - en T L", "issues B: 5 0:1:1 0:2:0 0:3:0 1:1:0 2:2:1",
	)
	done(t, d, "lang O fr", "lang O a-b", "lang O abcdefghijklmn")
	answered(t, d, "issues B O fr - en L T", "issues B: 0")
	for _, x := range []struct {
		first string
		want  api.Errno
	}{
		{"issues B O it - en L T", api.ErrNone},
		{"issues B O it - 1 L T", api.ErrNone},
		{"issues B O it nope en L T", api.ErrNone},
		{"issues B O de - 1 L T", api.ErrName},
		{"issues B O de - größe L T", api.ErrName},
		{"issues B O de nope 1 L T", api.ErrName},
		{"issues B O a-b - en L T", api.ErrName},
		{"issues B O abcdefghijklmn nope en L T", api.ErrName},
		{"issues B O de nope en L T", api.ErrNone},
		{"issues B O de -- en L T", api.ErrNone},
	} {
		refused(t, d, x.first, "", x.want)
	}
	wrote(t, d, "O", 0, strings.Repeat("! ", 513), false)
	refused(t, d, "issues B O de - en L T", "", api.ErrLimit)
}

// P10.2: the document in a language.
func TestShow(t *testing.T) {
	d := laid(t, "h1 A. <b>B</b>\nraw A. B\n")
	answered(t, d, "show O de", "show O de\nh1 A. <b>B</b>\nraw A. B\n")
	wrote(t, d, "O", 0, "Ein\\{ ", true)
	wrote(t, d, "O", 1, "<b>x</b>", false)
	answered(t, d, "show O de", "show O de\nh1 Ein\\{ <b>B</b>\nraw A. B\n")
	did(t, d, "office N R", "")
	done(t, d, "lang N fr")
	answered(t, d, "show N fr", "show N fr\n")
	refused(t, d, "show O fr", "", api.ErrNone)
	refused(t, d, "show N größe", "", api.ErrNone)
	// Texts that are longer together than a document may be, or have more pieces than a block.
	did(t, d, "office P R", "p A\np A\n")
	staff(t, d, "P")
	n := api.MaxText/2 - 3
	wrote(t, d, "P", 0, strings.Repeat("x", n), true)
	wrote(t, d, "P", 1, strings.Repeat("y", n), true)
	if answer := did(t, d, "show P de", ""); len(answer) != len("show P de\n")+api.MaxText {
		t.Error(len(answer))
	}
	did(t, d, "copy Q P", "")
	done(t, d, "reopen Q bob de 1")
	wrote(t, d, "Q", 1, strings.Repeat("y", n+1), true)
	refused(t, d, "show Q de", "", api.ErrLimit)
	did(t, d, "office W R", "p A. B\n")
	staff(t, d, "W")
	wrote(t, d, "W", 0, strings.Repeat("x{n}", 256), true)
	wrote(t, d, "W", 1, "{n}", true)
	refused(t, d, "show W de", "", api.ErrLimit)
}

// P10.2: sessions that are merged.
func TestMerge(t *testing.T) {
	d := laid(t, "p A. B. C\n")
	did(t, d, "copy A O", "")
	did(t, d, "copy E O", "")
	answered(t, d, "merge P E O A", "office P: 0 conflicts [0]")
	if !office.Same(officeOf(t, d, "P"), officeOf(t, d, "E")) {
		t.Error(officeOf(t, d, "P"))
	}
	wrote(t, d, "O", 0, "a", true)
	wrote(t, d, "O", 1, "b", true)
	wrote(t, d, "A", 1, "c", false)
	wrote(t, d, "A", 2, "d", true)
	answered(t, d, "merge Q E O A", "office Q: 1 conflicts [1]")
	q := officeOf(t, d, "Q")
	if c := q.Cells[0]; c[0].Text != "a" || c[1].Text != "b" || len(c[1].Others) != 1 || c[2].Text != "d" {
		t.Errorf("%+v", c)
	}
	c := d.Proofs()[1]
	if c.Kind != api.CtMerge || !office.Same(c.Base, officeOf(t, d, "E")) || !office.Same(c.A, officeOf(t, d, "O")) || !office.Same(c.B, officeOf(t, d, "A")) || !office.Same(c.Merged, q) {
		t.Errorf("%+v", c)
	}
	// With a changed source: that of one session, to which the others come.
	did(t, d, "copy F A", "")
	did(t, d, "source F", "p C. B. A\n")
	answered(t, d, "merge V E O F", "office V: 1 conflicts [2]", "merge W E F O", "office W: 1 conflicts [3]", "verify", "verified 4")
	if x, y := officeOf(t, d, "V"), officeOf(t, d, "W"); !office.Same(x, y) || x.Version != 1 {
		t.Error(x, y)
	}
	// Later work changes no certificate.
	done(t, d, "lang O fr", "lang Q fr", "lock V ann de 0")
	answered(t, d, "verify", "verified 4")
	if got := d.Proofs()[1]; !office.Same(got.Merged, q) || !office.Same(got.A, c.A) {
		t.Error(got)
	}
	did(t, d, "copy G O", "")
	did(t, d, "source G", "p D\n")
	refused(t, d, "merge N E F G", "", api.ErrClash)
	refused(t, d, "merge N G O A", "", api.ErrArg)
	did(t, d, "rules R2", "")
	did(t, d, "office H R2", "p A. B. C\n")
	refused(t, d, "merge N E O H", "", api.ErrArg)
	refused(t, d, "merge N H O A", "", api.ErrArg)
	// Names in another order are other sessions.
	did(t, d, "copy I E", "")
	wrote(t, d, "I", 0, "z", true)
	answered(t, d, "merge J I E O", "office J: 1 conflicts [4]", "merge K E I O", "office K: 1 conflicts [5]")
	if x, y := officeOf(t, d, "J"), officeOf(t, d, "K"); office.Same(x, y) || len(x.Cells[0][0].Others) != 0 || len(y.Cells[0][0].Others) != 1 {
		t.Error(x, y)
	}
}

// P10.2: how many certificates there are, if all of them hold.
func TestVerifyCommand(t *testing.T) {
	d := laid(t, "p A\n")
	for n := range 12 {
		answered(t, d, "verify", fmt.Sprint("verified ", n), "analyze L cat", fmt.Sprintf("analyze cat: cat/0 [%d]", n))
	}
	refused(t, d, "verify", "x\n", api.ErrForm)
}

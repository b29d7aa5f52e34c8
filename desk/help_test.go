package desk_test

import (
	"fmt"
	"math/rand/v2"
	"strings"
	"testing"

	"truchman/api"
	"truchman/desk"
	"truchman/docs"
	"truchman/grammar"
	"truchman/morph"
)

func dice() *rand.Rand { return rand.New(rand.NewPCG(10, 11)) }

func pick[T any](r *rand.Rand, l ...T) T { return l[r.IntN(len(l))] }

// englishText and germanText are the lexicons of chapter 3, with a link for compounds and an adjective.
const englishText = `vowels aeiou
trait num sg pl
class noun
slot 0 - - num=sg
slot 0 - s num=pl
class verb
slot 0 - -
class adj
slot 0 - -
entry dog noun
entry cat noun
entry see verb
entry red adj
link noun - num=sg
`

const germanText = `vowels aeiou
trait num sg pl
class noun
slot 0 - - num=sg
slot 0 - e num=pl
class verb
slot 0 - en
class adj
slot 0 - -
entry hund noun
entry katz noun
entry seh verb
entry rot adj
`

// rulesText is the system of chapter 3, with a rule that exchanges two words.
const rulesText = `start S
rule S 1
cat NP
cat VP
source 1 2
target 1 2
rule NP 0
lex dog hund
source =the 1
target =der 1
same 1.s.num 1.t.num
same 0.t.num 1.t.num
rule VP 2
lex see seh
cat NP
source 1 2
target 2 1
rule NP 1
lex red rot
lex cat katz
source =the 1 2
target =der 2 1
same 2.s.num 2.t.num
`

// theTree is the text of the tree of chapter 3.
const theTree = "(0 (1 [0 0 > 0 0]) (2 [2 0 > 2 0] (1 [0 1 > 0 1])))"

const theWords = "the dog see the dogs"

const termsText = `domain zoo
domain it
concept dog zoo
term en preferred dog
term de preferred hund
term de forbidden rot
concept see it
term en preferred see
term de preferred seh
`

const checksText = `size 3 size(words(source)) == size(words(target))
hund 20 "hund" in words(target)
`

const breaksText = `keep "%bDr.%s" ""
break ".%s" "%u"
`

// plainText is the text of a lexicon that is enough for rules of words.
const plainText = "vowels a\nclass n\nslot 0 - -\nentry x n\n"

// text writes a command: its first line, and each line of a body behind a |.
func text(first, body string) string {
	var out strings.Builder
	out.WriteString(first)
	for line := range strings.Lines(body) {
		out.WriteString("\n|" + strings.TrimSuffix(line, "\n"))
	}
	return out.String()
}

// did does a command that has no error.
func did(t *testing.T, d *desk.Desk, first, body string) string {
	t.Helper()
	answer, e := d.Do(text(first, body))
	if e != api.OK {
		t.Fatalf("%s: error %d", first, e)
	}
	return answer
}

// answered does commands without a body, which have these answers.
func answered(t *testing.T, d *desk.Desk, l ...string) {
	t.Helper()
	for i := 0; i < len(l); i += 2 {
		if got := did(t, d, l[i], ""); got != l[i+1] {
			t.Errorf("%s: %q, want %q", l[i], got, l[i+1])
		}
	}
}

// done does commands without a body, of which the answer is that they are done.
func done(t *testing.T, d *desk.Desk, l ...string) {
	t.Helper()
	for _, first := range l {
		if got := did(t, d, first, ""); !strings.HasSuffix(got, ": done") {
			t.Errorf("%s: %q", first, got)
		}
	}
}

// refused does a command that has this error, and holds that nothing that a desk tells has changed.
func refused(t *testing.T, d *desk.Desk, first, body string, want api.Errno) {
	t.Helper()
	refusedText(t, d, text(first, body), want)
}

func refusedText(t *testing.T, d *desk.Desk, s string, want api.Errno) {
	t.Helper()
	before := told(d)
	if answer, e := d.Do(s); e != want || answer != "" {
		t.Errorf("%.200q: %q, error %d, want %d", s, answer, e, want)
	}
	if told(d) != before {
		t.Errorf("%.200q: changed", s)
	}
}

// told is all that a desk tells of itself.
func told(d *desk.Desk) string {
	out := fmt.Sprintf("%q\n%+v\n", d.Names(), d.Proofs())
	for _, name := range d.Names() {
		o, ok := d.Office(name)
		out += fmt.Sprintln(ok, fmt.Sprintf("%+v", o))
	}
	return out
}

// laid is a desk with a thing of each kind: the lexicons L and T, the system S, the model M, the termbase B, the rules R, the checks C, and the office O of a document, with the language de: ann translates, bob reviews, cy does both.
func laid(t *testing.T, document string) *desk.Desk {
	t.Helper()
	d := desk.New()
	did(t, d, "lexicon L", englishText)
	did(t, d, "lexicon T", germanText)
	did(t, d, "system S L T", rulesText)
	did(t, d, "model M", "der hund der hunde sehen\n")
	did(t, d, "terms B", termsText)
	did(t, d, "rules R", breaksText)
	did(t, d, "checks C", checksText)
	did(t, d, "office O R", document)
	staff(t, d, "O")
	return d
}

func staff(t *testing.T, d *desk.Desk, o string) {
	t.Helper()
	done(t, d, "lang "+o+" de", "person "+o+" ann de translator", "person "+o+" bob de reviewer",
		"person "+o+" cy de translator", "person "+o+" cy de reviewer")
}

// wrote lets ann write a text, which bob approves if he is to.
func wrote(t *testing.T, d *desk.Desk, o string, segment int, s string, approved bool) {
	t.Helper()
	cell := fmt.Sprint(" de ", segment)
	done(t, d, "lock "+o+" ann"+cell)
	did(t, d, "edit "+o+" ann"+cell, s+"\n")
	done(t, d, "free "+o+" ann"+cell)
	if approved {
		done(t, d, "approve "+o+" bob"+cell)
	}
}

func officeOf(t *testing.T, d *desk.Desk, name string) api.Office {
	t.Helper()
	o, ok := d.Office(name)
	if !ok {
		t.Fatalf("no office %s", name)
	}
	return o
}

// proofOf returns the last certificate of a desk.
func proofOf(t *testing.T, d *desk.Desk) api.Certificate {
	t.Helper()
	l := d.Proofs()
	if len(l) == 0 {
		t.Fatal("no certificate")
	}
	return l[len(l)-1]
}

func lexicon(text string) api.Lexicon {
	l, line, e := morph.Parse(text)
	if e != api.OK {
		panic(fmt.Sprint(text, ": line ", line, ", error ", e))
	}
	return l
}

// ruled is a system of rules, with lexicons of the words a to f.
func ruled(rules string) api.System {
	s, line, e := grammar.Parse(lexicon(lettersText), lexicon(lettersText), rules)
	if e != api.OK {
		panic(fmt.Sprint(rules, ": line ", line, ", error ", e))
	}
	return s
}

const lettersText = "vowels a\nclass n\nslot 0 - -\nslot 0 - s\nentry a n\nentry b n\nentry c n\nentry d n\nentry e n\nentry f n\nlink n -\n"

// given is the system of rulesText.
func given() api.System {
	s, _, e := grammar.Parse(lexicon(englishText), lexicon(germanText), rulesText)
	if e != api.OK {
		panic(e)
	}
	return s
}

func tree(text string) api.Tree {
	t, e := grammar.Read(text)
	if e != api.OK {
		panic(text)
	}
	return t
}

func pieces(text string) []api.Piece {
	l, e := docs.Read(text)
	if e != api.OK {
		panic(text)
	}
	return l
}

// tagsOf returns how often a list of pieces has each tag.
func tagsOf(l []api.Piece) map[string]int {
	tags, e := docs.Tags(l)
	if e != api.OK {
		panic(e)
	}
	out := map[string]int{}
	for _, tag := range tags {
		out[tag]++
	}
	return out
}

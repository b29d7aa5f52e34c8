package terms_test

import (
	"fmt"
	"math/rand/v2"
	"slices"
	"strings"
	"testing"

	"truchman/api"
	"truchman/docs"
	"truchman/morph"
	"truchman/terms"
)

const rounds = 300

func dice() *rand.Rand { return rand.New(rand.NewPCG(7, 8)) }

func pick[T any](r *rand.Rand, l ...T) T { return l[r.IntN(len(l))] }

// some makes up to n values.
func some[T any](r *rand.Rand, n int, one func() T) []T {
	var out []T
	for range r.IntN(n + 1) {
		out = append(out, one())
	}
	return out
}

// givenLexicon is the text of the lexicon of the chapter's examples.
const givenLexicon = `vowels aeiou
trait num sg pl
class noun
slot 0 - - num=sg
slot 0 - s num=pl
entry net noun
entry work noun
entry web noun
link noun - num=sg
`

// givenBase is the text of the termbase of the chapter's examples.
const givenBase = `domain it
concept c it
term en preferred net work
term en allowed net+work
term en forbidden web
`

func base(text string) api.Termbase {
	b, line, e := terms.Parse(text)
	if e != api.OK {
		panic(fmt.Sprint("line ", line, ": error ", e))
	}
	return b
}

// concepts is a termbase of the domain d with a concept of each text: its terms, as "LANG STATUS ELEMENTS; LANG STATUS ELEMENTS", with just the first letter of the status.
func concepts(texts ...string) api.Termbase {
	b := api.Termbase{Domains: []string{"d"}}
	for i, text := range texts {
		c := api.Concept{Name: fmt.Sprint("c", i), Domain: "d"}
		for _, x := range strings.Split(text, ";") {
			if words := strings.Fields(x); len(words) > 0 {
				status := api.TermStatus(1 + strings.Index("paf", words[1]))
				c.Terms = append(c.Terms, api.TermEntry{Lang: words[0], Status: status, Elements: words[2:]})
			}
		}
		b.Concepts = append(b.Concepts, c)
	}
	return b
}

func lexicon(text string) api.Lexicon {
	l, line, e := morph.Parse(text)
	if e != api.OK {
		panic(fmt.Sprint("line ", line, ": error ", e))
	}
	return l
}

func tongue(name, text string) api.Tongue { return api.Tongue{Name: name, Lexicon: lexicon(text)} }

// english is the tongue of the chapter's examples.
func english() api.Tongue { return tongue("en", givenLexicon) }

// mute is a tongue without words.
func mute(name string) api.Tongue { return api.Tongue{Name: name} }

func fields(s string) []string { return strings.Fields(s) }

// read reads pieces.
func read(s string) []api.Piece {
	l, e := docs.Read(s)
	if e != api.OK {
		panic(fmt.Sprint(s, ": error ", e))
	}
	return l
}

// pairs reads pairs by the written forms of their sides: "SOURCE | TARGET".
func pairs(texts ...string) []api.Pair {
	var out []api.Pair
	for _, s := range texts {
		source, target, _ := strings.Cut(s, " | ")
		out = append(out, api.Pair{Source: read(source), Target: read(target)})
	}
	return out
}

// shown writes occurrences: "AT+WORDS:CONCEPT.TERM".
func shown(l []api.Occurrence) string {
	var out []string
	for _, o := range l {
		out = append(out, fmt.Sprintf("%d+%d:%d.%d", o.At, o.Words, o.Concept, o.Term))
	}
	return strings.Join(out, " ")
}

func all(t *testing.T, b api.Termbase, x api.Tongue, words []string) []api.Occurrence {
	t.Helper()
	l, e := terms.All(b, x, words)
	if e != api.OK {
		t.Fatalf("All(%v, %v, %q): error %d", b, x, words, e)
	}
	return l
}

func found(t *testing.T, b api.Termbase, x api.Tongue, words []string) []api.Occurrence {
	t.Helper()
	l, e := terms.Find(b, x, words)
	if e != api.OK {
		t.Fatalf("Find(%v, %v, %q): error %d", b, x, words, e)
	}
	return l
}

// rowsOf writes rows of words: "a b; c".
func rowsOf(l [][]string) string {
	var out []string
	for _, row := range l {
		out = append(out, strings.Join(row, " "))
	}
	return strings.Join(out, "; ")
}

// proposed writes proposals: "2 a b; 1 c".
func proposed(l []api.Proposal) string {
	var out []string
	for _, p := range l {
		out = append(out, fmt.Sprint(p.Count, " ", strings.Join(p.Lemmas, " ")))
	}
	return strings.Join(out, "; ")
}

// issued writes issues: "PAIR:KIND:CONCEPT.TERM@AT", the kind by its first letter.
func issued(l []api.Issue) string {
	var out []string
	for _, x := range l {
		out = append(out, fmt.Sprintf("%d:%c:%d.%d@%d", x.Pair, "-MAFU"[x.Kind], x.Concept, x.Term, x.At))
	}
	return strings.Join(out, " ")
}

func sameTerm(x, y api.TermEntry) bool {
	return x.Lang == y.Lang && x.Status == y.Status && slices.Equal(x.Elements, y.Elements)
}

func sameConcept(x, y api.Concept) bool {
	return x.Name == y.Name && x.Domain == y.Domain && slices.EqualFunc(x.Terms, y.Terms, sameTerm)
}

// same reports whether termbases are equal; nil and empty lists are.
func same(x, y api.Termbase) bool {
	return slices.Equal(x.Domains, y.Domains) && slices.EqualFunc(x.Concepts, y.Concepts, sameConcept)
}

// crooked is a tongue whose lexicon has an error, which all functions pass on.
func crooked(name string) api.Tongue {
	x := tongue(name, givenLexicon)
	x.Lexicon.Links[0].Glue = "-"
	return x
}

// crookedIs is the error of that lexicon.
const crookedIs = api.ErrArg

// twisted is a tongue whose lexicon has another error.
func twisted(name string) api.Tongue {
	x := tongue(name, givenLexicon)
	x.Lexicon.Entries[1].Lemma = "net"
	return x
}

// twistedIs is the error of that lexicon.
const twistedIs = api.ErrTwice

package terms_test

import (
	"math"
	"testing"

	"truchman/api"
	"truchman/terms"
)

// several is the text of a lexicon in which a word may be several forms of a lemma, and a lemma has several entries.
const several = `vowels aeiou
trait case nom gen
trait num sg pl
class noun
slot 0 - - case=nom num=sg
slot 0 - s case=gen num=sg
slot 0 - s case=nom num=pl
class verb
slot 0 - - num=pl
slot 0 - s num=sg
slot 0 - ed
class name
slot 0 - - case=nom
entry net noun
entry mesh noun
form 1 meshof
form 2 meshes
entry web noun
entry web verb
entry grid verb
entry plant verb
entry plant noun
entry root noun
form 1 -
form 2 -
entry roots noun
entry anna name
entry webs name
link noun - num=sg
`

// suggested returns what is suggested in the place of the first occurrence of a term of the first concept.
func suggested(t *testing.T, b api.Termbase, words []string, term int) string {
	t.Helper()
	x := tongue("en", several)
	for _, o := range all(t, b, x, words) {
		if o.Concept == 0 && o.Term == term {
			l, e := terms.Suggest(b, x, words, o)
			if e != api.OK {
				t.Fatalf("Suggest(%v, %q, %v): error %d", b.Concepts, words, o, e)
			}
			return rowsOf(l)
		}
	}
	t.Fatalf("%v: no term %d in %q", b.Concepts, term, words)
	return ""
}

// P7.2: what is suggested in the place of the term 0.
func TestSuggest(t *testing.T) {
	for _, x := range []struct{ terms, words, want string }{
		// One lexical word for another: the forms with the features of the word that stands there.
		{"en f net; en p mesh", "net", "mesh"},
		{"en f net; en p mesh", "a nets", "meshof; meshes"}, // genitive, then plural
		{"en f net; en p mesh", "Nets", "Meshof; Meshes"},
		{"en f net; en p mesh", "NETS", "Meshof; Meshes"}, // just the first letter
		{"en f net; en p mesh", "nETS", "meshof; meshes"},
		{"en f mesh; en p net", "Meshes", "Nets"},
		{"en f mesh; en p net", "meshof", "nets"},
		{"en f web; en p net", "webs", "nets; net"},  // genitive, plural, and singular of a verb
		{"en f web; en p net", "webed", "net; nets"}, // a form without features: all forms
		{"en f web; en p grid", "webs", "grids"},     // neither genitive nor plural with a case, but singular
		{"en f web; en p grid", "web", "grid"},       // nominative and singular there is not; plural
		{"en f net; en p grid", "nets", "grid"},      // no form has a case
		{"en f net; en p plant", "nets", "plants"},   // the verb has no case
		{"en f plant; en p net", "planted", "net; nets"},
		{"en f plant; en p grid", "plants", "grids"},
		{"en f net; en p web", "net", "web"},
		{"en p net", "nets", "nets"},                 // itself
		{"en f anna; en p net", "anna", "net; nets"}, // nominative
		// No form: the lemma itself.
		{"en f net; en p root", "nets", "root"},
		{"en f roots; en p web", "roots", "web"},
		{"en f net; en p lattice", "nets", "lattice"}, // no entry
		{"en f lattice; en p net", "Lattice", "Net"},  // no analysis
		{"en f mesh; en p anna", "meshof", "anna"},
		// An analysis of another lemma does not count.
		{"en f webs; en p mesh", "webs", "mesh; meshes"},
		{"en f root; en p net", "root", "net"},
		{"en f roots; en p mesh", "rootss", "meshof; meshes"},
		{"en f netnet; en p mesh", "netnet", "mesh"}, // a compound, by the lexicon
		// Any other term: its elements, one word for each.
		{"en f net; en p web site", "nets", "web site"},
		{"en f net; en p web+site", "nets", "website"},
		{"en f net; en p web+site+map =! ={n}", "nets", "websitemap ! {n}"},
		{"en f net; en p =mesh", "nets", "mesh"},
		{"en f net; en p =Mesh", "nets", "Mesh"},
		{"en f =nets; en p mesh", "nets", "mesh"}, // the old one is literal
		{"en f =Nets; en p mesh", "Nets", "Mesh"},
		{"en f net+web; en p mesh", "netwebs", "mesh"}, // the old one is a compound
		{"en f net web; en p mesh", "nets webs", "mesh"},
		{"en f net web; en p mesh grid", "Nets Webs", "Mesh grid"},
		{"en f net web; en p mesh+grid", "nets Webs", "meshgrid"},
		// The first letter is made great if it is a letter a to z, and that of the occurrence is great.
		{"en f net; en p =mesh net", "Nets", "Mesh net"},
		{"en f net; en p =Mesh net", "nets", "Mesh net"},
		{"en f net; en p =7 net", "Nets", "7 net"},
		{"en f net; en p =étage", "Nets", "étage"},
		{"en f =Étage; en p mesh", "Étage", "mesh"},
		{"en f =7 =A; en p mesh", "7 A", "mesh"},
		{"en f =A; en p z", "A", "Z"},
		{"en f =Z; en p a", "Z", "A"},
		{"en f =[; en p a", "[", "a"},
		{"en f =@; en p a", "@", "a"},
		{"en f =A; en p =`", "A", "`"},
		{"en f =A; en p ={n}", "A", "{n}"},
		// Preferred terms of the language, in order, each row once.
		{"en f net; en p web; en a grid; en p mesh; en f root", "net", "web; mesh"},
		{"en f net; en p mesh; en p web", "net", "mesh; web"},
		{"en f net; de p netz; en p mesh; fr p filet", "net", "mesh"},
		{"en f net; en p web; en p =web; en p mesh; en p web site", "net", "web; mesh; web site"},
		{"en f net; en p web+site; en p website; en p =Website; en p =website", "net", "website; Website"},
		{"en f net; en p =Website; en p web+site; en p website", "Net", "Website"}, // compared as they are told
		{"en f net; en p mesh; en p =meshes; en p =meshof", "nets", "meshof; meshes"},
		{"en p net; en p mesh", "nets", "nets; meshof; meshes"},
		{"en p net; en p =mesh; en p mesh", "Nets", "Nets; Mesh; Meshof; Meshes"},
	} {
		if got := suggested(t, concepts(x.terms), fields(x.words), 0); got != x.want {
			t.Errorf("%s in %s: %s, want %s", x.terms, x.words, got, x.want)
		}
	}
	// The example of the chapter.
	l, e := terms.Suggest(base(givenBase), english(), fields("Webs"), api.Occurrence{At: 0, Words: 1, Concept: 0, Term: 2})
	if rowsOf(l) != "Net work" || e != api.OK {
		t.Errorf("%s, error %d", rowsOf(l), e)
	}
}

// P7.2: it is the term of the occurrence that counts, and all of All's are asked for, not just those that Find chooses.
func TestSuggestOfAll(t *testing.T) {
	b := concepts("en p mesh; en f net; en f =nets; en f nets", "en p web; en f net web")
	words := fields("the nets web")
	for term, want := range map[int]string{1: "meshof; meshes", 2: "mesh", 3: "mesh"} {
		if got := suggested(t, b, words, term); got != want {
			t.Errorf("term %d: %s, want %s", term, got, want)
		}
	}
	if got := shown(found(t, b, tongue("en", several), words)); got != "1+2:1.1" {
		t.Error(got)
	}
}

// P7.2: the errors of Suggest that come behind those of All.
func TestSuggestErrors(t *testing.T) {
	b := concepts("en p mesh; en f net", "en f net; en a mesh; de p netz", "de p net")
	words := fields("the nets nets")
	x := tongue("en", several)
	fine := api.Occurrence{At: 1, Words: 1, Concept: 0, Term: 1}
	if l, e := terms.Suggest(b, x, words, fine); rowsOf(l) != "meshof; meshes" || e != api.OK {
		t.Fatalf("%s, error %d", rowsOf(l), e)
	}
	for _, o := range []api.Occurrence{
		{At: 0, Words: 1, Concept: 0, Term: 1}, {At: 3, Words: 1, Concept: 0, Term: 1}, {At: -1, Words: 1, Concept: 0, Term: 1},
		{At: 1, Words: 0, Concept: 0, Term: 1}, {At: 1, Words: 2, Concept: 0, Term: 1}, {At: 1, Words: -1, Concept: 0, Term: 1},
		{At: 1, Words: 1, Concept: 0, Term: 0}, {At: 1, Words: 1, Concept: 0, Term: 2}, {At: 1, Words: 1, Concept: 0, Term: -1},
		{At: 1, Words: 1, Concept: 2, Term: 0}, {At: 1, Words: 1, Concept: 3, Term: 1}, {At: 1, Words: 1, Concept: -1, Term: 1},
		{At: math.MaxInt, Words: math.MaxInt, Concept: math.MaxInt, Term: math.MaxInt},
		{At: math.MinInt, Words: math.MinInt, Concept: math.MinInt, Term: math.MinInt}, {},
		{At: 1, Words: 1, Concept: 1, Term: 0}, // an occurrence, but of a concept without a preferred term in the language
	} {
		if l, e := terms.Suggest(b, x, words, o); l != nil || e != api.ErrNone {
			t.Errorf("%v: %s, error %d", o, rowsOf(l), e)
		}
	}
	if l, e := terms.Suggest(b, x, nil, fine); l != nil || e != api.ErrNone {
		t.Errorf("%s, error %d", rowsOf(l), e)
	}
	if l, e := terms.Suggest(api.Termbase{}, x, words, fine); l != nil || e != api.ErrNone {
		t.Errorf("%s, error %d", rowsOf(l), e)
	}
}

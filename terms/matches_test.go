package terms_test

import (
	"strings"
	"testing"

	"truchman/api"
	"truchman/terms"
)

// twoFold is the text of a lexicon in which words are forms of several lemmas, and compounds of several parts.
const twoFold = `vowels aeiou
trait num sg pl
class noun
slot 0 - - num=sg
slot 0 - s num=pl
class verb
slot 0 - -
slot 0 - s
slot 0 - ing
entry net noun
entry work noun
entry work verb
entry nets verb
entry go verb
form 0 went
form 2 -
entry mouse noun
form 1 mice
entry mic noun
entry city noun
spell y+ i+e - s
link noun - num=sg
link noun s num=sg
`

// P7.1: words that match an element, and words that do not.
func TestMatches(t *testing.T) {
	for _, x := range []struct{ element, yes, no string }{
		// One plain word: the word itself, also one that no lexicon has, and the forms of its entries.
		{"net", "net Net NET nets Nets NETS nEt", "ne nett work netnet networks =net net. nét netss"},
		{"work", "work works Working worKS WORKING", "worked network networks reworking"},
		{"nets", "nets Netss NETSING", "net nett work neting netsss"}, // a verb
		{"city", "city Cities CITIES", "citys citie"},
		{"web", "web Web WEB", "webs webb we =web web+"},
		{"go", "go gos Went WENT", "going goes gone"},
		{"went", "went WENT", "go gos"},
		{"mouse", "mouse mice MICE Mouse", "mouses mic"},
		{"mic", "mic Mics MIC", "mice mouse micing"},
		{"zzzzzzzzzzzzzzzzzzzzzzzz", "zzzzzzzzzzzzzzzzzzzzzzzz ZzzzzzzzzzzzzzzzzzzzzzzZ", "zzzzzzzzzzzzzzzzzzzzzzz zzzzzzzzzzzzzzzzzzzzzzzzz"},
		// Several: compounds alone.
		{"net+work", "network Networks NETSWORK networking netsworking", "net work net+work networknet networknetwork nets"},
		{"work+net", "worknet worksnets", "network worknetwork work+net"},
		{"net+net", "netnet netsnet netnets netsnets", "net nets netnetnet"},
		{"net+nets", "netnets netnetss netsnets NETNETSING", "netnet netsnet nets"}, // netnets is net and nets, and net and a plural
		{"net+work+net", "networknet networksnet NetsWorksNets", "network worknet networknetwork net+work+net"},
		{"net+net+net", "netnetnet netsnetsnets", "netnet netnetnetnet"},
		{"mouse+mic", "mousemic mousesmics", "micemic micemics"}, // first parts are singular
		{"go+net", "", "gonet wentnet gosnet"},                   // and nouns
		{"web+net", "", "webnet web+net"},                        // each part is an entry
		{"net+web", "", "netweb"},
		// Literal ones: that word.
		{"=net", "net", "Net NET nets =net"},
		{"=Nets", "Nets", "nets Net NETS"},
		{"=network", "network", "Network networks"},
		{"=é", "é", "É e"},
		{"==", "=", "=="},
		{"=+", "+", "++ a"},
		{"={n}", "{n}", "n {N} {m} <n> {n"},
		{"=A4", "A4", "a4 A"},
	} {
		for _, word := range strings.Fields(x.yes) {
			if ok, e := terms.Matches(tongue("en", twoFold), x.element, word); !ok || e != api.OK {
				t.Errorf("%s, %s: %v, error %d", x.element, word, ok, e)
			}
		}
		words := append(strings.Fields(x.no), "", " ", "\xff", "a b", "<b>", strings.Repeat("net", 9), x.element+"\n", "é"+x.element)
		for _, word := range words {
			if ok, e := terms.Matches(tongue("en", twoFold), x.element, word); ok || e != api.OK {
				t.Errorf("%s, %s: %v, error %d", x.element, word, ok, e)
			}
		}
	}
	// The greatest words, and the shortest ones that are too long.
	long := "vowels a\nclass n\nslot 0 - -\nentry " + strings.Repeat("z", 12) + " n\nentry z n\nlink n -\n"
	half := strings.Repeat("z", 12)
	for word, want := range map[string]bool{half + half: true, strings.ToUpper(half) + half: true, half + half + "z": false, half: false} {
		if ok, e := terms.Matches(tongue("en", long), half+"+"+half, word); ok != want || e != api.OK {
			t.Errorf("%s: %v, error %d", word, ok, e)
		}
	}
}

// P7.1: letters a to z stand for A to Z alone, in any string of bytes.
func TestLow(t *testing.T) {
	alphabet := "abcdefghijklmnopqrstuvwxyz"
	for _, element := range []string{alphabet[:13], alphabet[13:]} {
		if ok, e := terms.Matches(mute(""), element, strings.ToUpper(element)); !ok || e != api.OK {
			t.Errorf("%s: %v, error %d", element, ok, e)
		}
	}
	for _, word := range []string{"@", "`", "[", "{", "!", "À", "\xc1", "\u212a", "\u017f"} {
		for _, element := range []string{"a", "z", "k", "s"} {
			if ok, e := terms.Matches(mute(""), element, word); ok || e != api.OK {
				t.Errorf("%s, %q: %v, error %d", element, word, ok, e)
			}
		}
	}
}

// P7.1: the errors of Matches, in their order. It does not ask for the name of the tongue, nor of the word what it is.
func TestMatchesErrors(t *testing.T) {
	for _, element := range noElements {
		if ok, e := terms.Matches(english(), element, "net"); ok || e != api.ErrForm {
			t.Errorf("%q: %v, error %d", element, ok, e)
		}
		if ok, e := terms.Matches(crooked("en"), element, "net"); ok || e != crookedIs {
			t.Errorf("%q: %v, error %d", element, ok, e)
		}
		if ok, e := terms.Matches(english(), element, element); ok || e != api.ErrForm {
			t.Errorf("%q: %v, error %d", element, ok, e)
		}
	}
	for _, name := range noNames {
		if ok, e := terms.Matches(tongue(name, givenLexicon), "net", "nets"); !ok || e != api.OK {
			t.Errorf("%q: %v, error %d", name, ok, e)
		}
		if ok, e := terms.Matches(crooked(name), "net", "net"); ok || e != crookedIs {
			t.Errorf("%q: %v, error %d", name, ok, e)
		}
	}
}

// The example of the chapter.
func TestMatchesExample(t *testing.T) {
	if ok, e := terms.Matches(english(), "net+work", "Networks"); !ok || e != api.OK {
		t.Error(ok, e)
	}
}

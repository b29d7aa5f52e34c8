package terms_test

import (
	"fmt"

	"truchman/api"
	"truchman/docs"
	"truchman/morph"
	"truchman/terms"
)

// The example of README.md.
func Example() {
	english, _, _ := morph.Parse("vowels aeiou\ntrait num sg pl\nclass noun\nslot 0 - - num=sg\nslot 0 - s num=pl\nentry net noun\nentry work noun\nentry web noun\nentry site noun\nlink noun - num=sg\n")
	german, _, _ := morph.Parse("vowels aeiou\ntrait num sg pl\nclass noun\nslot 0 - - num=sg\nslot 0 - e num=pl\nentry netz noun\nentry gewebe noun\nform 1 gewebe\n")
	b, _, _ := terms.Parse(`domain it
concept network it
term en preferred net
term en allowed net+work
term de preferred netz
term de forbidden gewebe
`)
	en, de := api.Tongue{Name: "en", Lexicon: english}, api.Tongue{Name: "de", Lexicon: german}
	words := []string{"the", "networks", "and", "nets"}
	found, _ := terms.Find(b, en, words)
	fmt.Println(found)
	source, _ := docs.FromWords(words)
	target, _ := docs.Read("die Gewebe und Netze")
	issues, _ := terms.Issues(b, en, de, "it", []api.Pair{{Source: source, Target: target}})
	fmt.Println(issues)
	rows, _ := terms.Suggest(b, de, []string{"die", "Gewebe", "und", "Netze"}, api.Occurrence{At: 1, Words: 1, Concept: 0, Term: 3})
	fmt.Println(rows)
	texts := [][]string{{"web", "sites", "of", "nets"}, {"the", "web", "sites"}, {"sites"}}
	proposals, _ := terms.Propose(b, en, texts, 2)
	fmt.Println(proposals)
	// Output:
	// [{1 1 0 1} {3 1 0 0}]
	// [{0 1 0 -1 -1} {0 3 0 3 1}]
	// [[Netz] [Netze]]
	// [{[site] 3} {[web site] 2}]
}

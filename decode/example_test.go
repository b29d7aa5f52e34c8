package decode_test

import (
	"fmt"
	"strings"

	"truchman/api"
	"truchman/decode"
	"truchman/grammar"
	"truchman/morph"
)

// The example of README.md.
func Example() {
	source, _, _ := morph.Parse("vowels aeiou\nclass word\nslot 0 - -\nslot 0 - s\nentry house word\nentry red word\n")
	target, _, _ := morph.Parse("vowels aeiou\nclass word\nslot 0 - -\nentry casa word\nentry roja word\n")
	s, _, _ := grammar.Parse(source, target, `start NP
rule NP 1
cat A
lex house casa
source =the 1 2
target =la 2 1
rule NP 0
cat A
lex house casa
source =the 1 2
target =la 1 2
rule A 0
lex red roja
source 1
target 1
`)
	m := api.Model{Unknown: 5, Pairs: []api.Bi{{First: "casa", Second: "roja", Cost: 1}, {First: "la", Second: "casa", Cost: 1}}}
	words := []string{"the", "red", "house"}
	trees, _ := decode.Best(s, m, words, 2)
	for _, t := range trees {
		r, _ := grammar.Derive(s, t)
		total, _ := decode.Total(s, m, t)
		fmt.Println(strings.Join(r.Target, " "), total)
	}
	proof, _ := decode.Prove(s, m, words)
	bound, _, _ := decode.Bound(s, m, words, proof)
	fmt.Println(bound)
	_, total, gap, _ := decode.Search(s, m, words, 1)
	fmt.Println(total, gap)
	// Output:
	// la casa roja 13
	// la roja casa 20
	// 13
	// 13 13
}

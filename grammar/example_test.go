package grammar_test

import (
	"fmt"
	"strings"

	"truchman/grammar"
	"truchman/morph"
)

// The example of README.md.
func Example() {
	source, _, _ := morph.Parse("vowels aeiou\nclass word\nslot 0 - -\nslot 0 - s\nentry house word\nentry red word\n")
	target, _, _ := morph.Parse("vowels aeiou\nclass word\nslot 0 - -\nentry casa word\nentry roja word\n")
	s, _, _ := grammar.Parse(source, target, `start NP
rule NP 1
cat A
lex house casa
source =the 1 2
target =la 2 1
rule A 0
lex red roja
source 1
target 1
`)
	t, _ := grammar.Read("(0 (1 [1 0 > 1 0]) [0 0 > 0 0])")
	r, _ := grammar.Derive(s, t)
	fmt.Println(strings.Join(r.Source, " "))
	fmt.Println(strings.Join(r.Target, " "))
	fmt.Println(r.Cost)
	// Output:
	// the red house
	// la casa roja
	// 1
}

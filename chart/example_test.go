package chart_test

import (
	"fmt"
	"strings"

	"truchman/chart"
	"truchman/grammar"
	"truchman/morph"
)

// The example of README.md.
func Example() {
	source, _, _ := morph.Parse("vowels aeiou\nclass word\nslot 0 - -\nslot 0 - s\nentry house word\nentry red word\n")
	target, _, _ := morph.Parse("vowels aeiou\nclass word\nslot 0 - -\nentry casa word\nentry roja word\n")
	s, _, _ := grammar.Parse(source, target, `start NP
rule NP 1
cat A
lex house casa
source =the 1 2
target =la 2 1
rule A 0
lex red roja
source 1
target 1
`)
	f, _ := chart.Parse(s, []string{"the", "red", "house"})
	for _, goal := range f.Goals() {
		trees, _ := f.Best(goal, 10)
		for _, t := range trees {
			r, _ := grammar.Derive(s, t)
			fmt.Println(strings.Join(r.Target, " "), r.Cost)
		}
	}
	// Output:
	// la casa roja 1
}

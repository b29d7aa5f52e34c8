package train_test

import (
	"fmt"
	"strings"

	"truchman/api"
	"truchman/decode"
	"truchman/grammar"
	"truchman/morph"
	"truchman/train"
)

// The example of README.md.
func Example() {
	source, _, _ := morph.Parse("vowels aeiou\nclass word\nslot 0 - -\nslot 0 - s\nentry house word\nentry red word\n")
	target, _, _ := morph.Parse("vowels aeiou\nclass word\nslot 0 - -\nentry casa word\nentry roja word\n")
	s, _, _ := grammar.Parse(source, target, `start NP
rule NP 9
cat A
lex house casa
source =the 1 2
target =la 2 1
rule NP 9
cat A
lex house casa
source =the 1 2
target =la 1 2
rule A 9
lex red roja
source 1
target 1
`)
	l := []api.Couple{{Source: []string{"the", "red", "house"}, Target: []string{"la", "casa", "roja"}}}
	trees, _ := train.Fits(s, l[0], 10)
	for _, t := range trees {
		text, _ := grammar.Write(t)
		fmt.Println(text)
	}
	number, uses, _ := train.Count(s, l[0])
	unused, _ := train.Unused(s, l)
	fmt.Println(number, uses, unused)
	better, totals, _ := train.Train(s, l, 10)
	fmt.Println(totals, better.Rules[0].Cost, better.Rules[1].Cost, better.Rules[2].Cost)
	m, _ := train.Build([][]string{{"la", "casa", "roja"}, {"la", "casa"}})
	best, _ := decode.Best(better, m, l[0].Source, 1)
	r, _ := grammar.Derive(better, best[0])
	fmt.Println(strings.Join(r.Target, " "))
	// Output:
	// (0 (2 [1 0 > 1 0]) [0 0 > 0 0])
	// 1 [1 0 1] [1]
	// [18 2] 2 4 0
	// la casa roja
}

package desk_test

import (
	"fmt"

	"truchman/desk"
)

// The example of README.md.
func Example() {
	answers, proofs, _ := desk.Run(`# Two lexicons, a system of rules, and a language model.
lexicon english
|vowels aeiou
|class word
|slot 0 - -
|slot 0 - s
|entry house word
|entry red word
lexicon spanish
|vowels aeiou
|class word
|slot 0 - -
|entry casa word
|entry roja word
system S english spanish
|start NP
|rule NP 1
|cat A
|lex house casa
|source =the 1 2
|target =la 2 1
|rule A 0
|lex red roja
|source 1
|target 1
model M
|la casa roja
analyze english houses
translate S M the red house

# A document, and who works on it.
rules R
|break "%s" "%u"
office O R
|h1 The <b>red</b> house
|p A red house The house
lang O es
person O ann es translator
person O bob es reviewer

# Two sessions that go on from it.
copy A O
lock A ann es 0
draft A ann es 0 S M
free A ann es 0
approve A bob es 0
copy B O
lock B ann es 2
edit B ann es 2
|La casa
merge P O A B
show P es

# What is checked, and what is verified.
checks C
|tags 5 tags(source) ~ tags(target)
|short 1 length(target) < length(source) - 1
test C P es
verify
`)
	for _, x := range answers {
		fmt.Println(x)
	}
	fmt.Println(len(proofs), desk.Verify(proofs[0]))
	// Output:
	// lexicon english: 2 entries
	// lexicon spanish: 2 entries
	// system S: 2 rules
	// model M: 4 words 4 pairs
	// analyze houses: house/1 [0]
	// translate: la casa roja total 9 [1]
	// rules R: 1 rules
	// office O: 3 segments
	// O: done
	// O: done
	// O: done
	// office A: 3 segments
	// A: done
	// draft: La casa <b>roja</b>
	// A: done
	// A: done
	// office B: 3 segments
	// B: done
	// B: done
	// office P: 0 conflicts [2]
	// show P es
	// h1 La casa <b>roja</b>
	// p A red house The house
	//
	// checks C: 2 checks
	// test C: 1 findings weigh 1 [3]
	// verified 4
	// 4 0
}

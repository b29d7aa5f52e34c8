package morph_test

import (
	"fmt"

	"truchman/api"
	"truchman/morph"
)

// The example of README.md.
func Example() {
	l, _, _ := morph.Parse(`vowels aeiou
trait num sg pl
class noun
slot 0 - - num=sg
slot 0 - s num=pl
entry city noun
entry car noun
spell y+ i+e C s
link noun - num=sg
`)
	words, _ := morph.Generate(l, "city", []api.Feat{{Name: "num", Value: "pl"}})
	fmt.Println(words)
	a, _ := morph.New(l)
	analyses, _ := a.Analyze("carcities")
	fmt.Println(analyses)
	word, _ := morph.Build(l, analyses[0])
	fmt.Println(word)
	// Output:
	// [cities]
	// [{[{1 0 0}] 0 1}]
	// carcities
}

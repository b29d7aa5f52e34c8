package docs_test

import (
	"fmt"

	"truchman/api"
	"truchman/docs"
)

// The example of README.md.
func Example() {
	d, _, _ := docs.Parse("h1 Dogs\np <b>Red</b> house. It is {n}.\n")
	rules := []api.Break{{Before: ".%s", After: "%u", Break: true}}
	segments, _ := docs.Segments(d, rules)
	words := []string{"Casa", "roja", "."}
	ties := []api.Tie{{Source: 0, Target: 1}, {Source: 1, Target: 0}}
	segments[1].Pieces, _ = docs.Project(segments[1].Pieces, words, ties)
	d, _ = docs.Restore(d, segments)
	text, _ := docs.Print(d)
	fmt.Print(text)
	// Output:
	// h1 Dogs
	// p Casa <b>roja</b>.It is {n}.
}

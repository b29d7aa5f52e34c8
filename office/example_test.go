package office_test

import (
	"fmt"

	"truchman/api"
	"truchman/docs"
	"truchman/office"
)

// The example of README.md.
func Example() {
	o, _ := office.New("p One. Two\n", []api.Break{{Before: ".%s", Break: true}})
	o, _, _ = office.Run(o, []api.Event{
		{Kind: api.EvLanguage, Lang: "de"},
		{Kind: api.EvPerson, Lang: "de", Who: "ann", Role: api.RoTranslator},
		{Kind: api.EvPerson, Lang: "de", Who: "bob", Role: api.RoReviewer},
		{Kind: api.EvLock, Lang: "de", Who: "ann", Segment: 0},
		{Kind: api.EvEdit, Lang: "de", Who: "ann", Segment: 0, Text: "Eins. "},
		{Kind: api.EvFree, Lang: "de", Who: "ann", Segment: 0},
		{Kind: api.EvApprove, Lang: "de", Who: "bob", Segment: 0},
	})
	from, kept, _ := office.Touched(o, "p One. Three. Two\n")
	fmt.Println(from, kept)

	a, _ := office.Apply(o, api.Event{Kind: api.EvSource, Text: "p One. Three. Two\n"})
	b, at, e := office.Run(o, []api.Event{
		{Kind: api.EvLock, Lang: "de", Who: "ann", Segment: 1},
		{Kind: api.EvEdit, Lang: "de", Who: "ann", Segment: 1, Text: "Zwei"},
		{Kind: api.EvApprove, Lang: "de", Who: "ann", Segment: 1},
	})
	fmt.Println(at, e == api.ErrScope)
	merged, conflicts, _ := office.Merge(o, a, b)
	empty, draft, rejected, approved, stale, _ := office.Progress(merged, "de")
	fmt.Println(conflicts, empty, draft, rejected, approved, stale)
	d, _ := office.Output(merged, "de")
	text, _ := docs.Print(d)
	fmt.Print(text)
	// Output:
	// [0 -1 1] [true false true]
	// 2 true
	// [] 1 1 0 1 0
	// p Eins. Three. Two
}

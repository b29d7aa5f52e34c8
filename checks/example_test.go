package checks_test

import (
	"fmt"

	"truchman/api"
	"truchman/checks"
	"truchman/docs"
)

// The example of README.md.
func Example() {
	source, _ := docs.Read("Pay <b>3</b> of 4.")
	target, _ := docs.Read("Zahle 3 von 5")
	p := api.Pair{Source: source, Target: target}
	ratings := []api.Rating{
		{Name: "numbers", Formula: "all n in numbers(source): n in numbers(target)", Weight: 10},
		{Name: "tags", Formula: "tags(source) ~ tags(target)", Weight: 5},
		{Name: "end", Formula: `not last(words(source)) == "." or has(target, ".")`, Weight: 1},
	}
	found, _ := checks.Report(ratings, []api.Pair{p})
	for _, f := range found {
		fmt.Println(ratings[f.Check].Name, f.Reasons)
	}
	sum, _ := checks.Weigh(ratings, found)
	fmt.Println(sum)

	hyps := [][]string{{"a", "b", "c"}, {"d"}}
	refs := [][]string{{"a", "c", "d"}, {"d"}}
	precision, _ := checks.Precision(hyps, refs, 1)
	rate, _ := checks.Rate(hyps, refs)
	steps, _, _ := checks.Edits(hyps[0], refs[0])
	fmt.Println(precision, rate, steps)

	parts := []api.Fraction{{Num: 2, Den: 3}, {Num: 0, Den: 1}} // steps and words of each pair
	draws, _ := checks.Draws(1, 2, 1000)
	low, high, _ := checks.Interval(parts, draws, 25)
	fmt.Println(low, high)
	// Output:
	// numbers [{n in numbers(target) [{n 4}] false}]
	// tags [{tags(source) ~ tags(target) [] false}]
	// end [{last(words(source)) == "." [] true} {has(target, ".") [] false}]
	// 16
	// {3 4} {1 2} [0 1 1]
	// {0 1} {2 3}
}

package checks_test

import (
	"fmt"
	"slices"
	"strings"
	"testing"

	"truchman/api"
	"truchman/checks"
)

// samples are terms of each type.
var samples = map[string][]string{
	"number": {"1", "1 + 1", `length(source)`, "size(tags(target))"},
	"string": {`"a"`, `text(source)`, `first(words(target))`, "x"},
	"list":   {"words(source)", "numbers(target)"},
	"side":   {"source", "target"},
}

var types = []string{"number", "string", "list", "side"}

// takes are the types of the arguments of functions and tests, and of what they give.
var takes = map[string][2]string{
	"words": {"side", "list"}, "tags": {"side", "list"}, "holes": {"side", "list"}, "numbers": {"side", "list"}, "text": {"side", "string"}, "length": {"side", "number"},
	"size": {"list", "number"}, "first": {"list", "string"}, "last": {"list", "string"}, "count": {"list string", "number"}, "lower": {"string", "string"},
	"has": {"side string", ""}, "starts": {"string string", ""}, "ends": {"string string", ""}, "holds": {"string string", ""},
}

// checkKinds holds the error of a formula in which x is bound against whether its types are right.
func checkKinds(t *testing.T, formula string, right bool) {
	t.Helper()
	formula = "all x in words(source): " + formula
	want := api.OK
	if !right {
		want = api.ErrArg
	}
	if _, at, e := checks.Parse(formula); e != want || at != 0 {
		t.Errorf("Parse(%q): place %d, error %d, want %d", formula, at, e, want)
	}
}

// P8.1: functions and tests with all numbers and types of arguments.
func TestArguments(t *testing.T) {
	lists := [][]string{{}}
	for n := 0; n < len(lists); n++ {
		if len(lists[n]) < 3 {
			for _, s := range types {
				lists = append(lists, append(slices.Clone(lists[n]), s))
			}
		}
	}
	for used, x := range takes {
		for n, list := range lists[1:] {
			var args []string
			for i, s := range list {
				args = append(args, samples[s][(n+i)%2])
			}
			right := strings.Join(list, " ") == x[0]
			formula := fmt.Sprintf("%s(%s)", used, strings.Join(args, ", "))
			if used == "has" {
				right = right && args[1] == `"a"`
			} else if x[1] != "" {
				formula += " == " + formula
			}
			checkKinds(t, formula, right)
		}
	}
}

// P8.1: what functions give.
func TestResults(t *testing.T) {
	for used, x := range takes {
		for _, kind := range types {
			var args []string
			for _, s := range fields(x[0]) {
				args = append(args, samples[s][0])
			}
			formula := fmt.Sprintf("%s(%s)", used, strings.Join(args, ", "))
			if x[1] == "" {
				checkKinds(t, formula, true)
				continue
			}
			checkKinds(t, formula+" == "+samples[kind][0], kind == x[1])
			checkKinds(t, samples[kind][0]+" != "+formula, kind == x[1])
		}
	}
}

// P8.1: operators, operations and quantifiers with all types.
func TestOperands(t *testing.T) {
	number := func(a, b string) bool { return a == "number" && b == "number" }
	plain := func(a, b string) bool { return a == b && a != "side" }
	may := map[string]func(a, b string) bool{
		"==": plain, "!=": plain, "<": number, "<=": number, ">": number, ">=": number,
		"in": func(a, b string) bool { return a == "string" && b == "list" },
		"~":  func(a, b string) bool { return a == "list" && b == "list" },
	}
	for _, a := range types {
		for _, b := range types {
			for _, x := range samples[a] {
				for _, y := range samples[b] {
					for operator, right := range may {
						checkKinds(t, x+" "+operator+" "+y, right(a, b))
					}
					for _, operator := range []string{"+", "-", "*"} {
						right := number(a, b) && !strings.Contains(y, "+")
						if !strings.Contains(y, "+") || !number(a, b) {
							checkKinds(t, x+" "+operator+" "+y+" < 1", right)
							checkKinds(t, "1 == "+x+operator+y, right)
						}
					}
				}
			}
		}
		for _, x := range samples[a] {
			for _, operator := range []string{"all", "any"} {
				checkKinds(t, operator+" y in "+x+`: y == x`, a == "list")
			}
		}
	}
}

// P8.1: the second argument of has.
func TestPatterns(t *testing.T) {
	for _, x := range []struct {
		pattern string
		right   bool
	}{
		{`""`, true}, {`"a"`, true}, {`"%a%u%l%d%s%p%h%.%%%b"`, true}, {`"é"`, true}, {`"\"\\"`, true},
		{`"` + strings.Repeat("a", 32) + `"`, true}, {`"` + strings.Repeat("%a", 32) + `"`, true}, {`"` + strings.Repeat("%b", 32) + `"`, true},
		{`"` + strings.Repeat("a", 33) + `"`, false}, {`"` + strings.Repeat("%b", 33) + `"`, false},
		{`"%"`, false}, {`"%x"`, false}, {`"%%%"`, false}, {`"%A"`, false}, {`"%\\"`, false}, {`"a%"`, false}, {`"% "`, false},
		{"x", false}, {`lower("a")`, false}, {"text(source)", false}, {"1", false}, {"source", false}, {"words(source)", false},
	} {
		checkKinds(t, "has(source, "+x.pattern+")", x.right)
		checkKinds(t, "has(target, "+x.pattern+")", x.right)
		checkKinds(t, "has(x, "+x.pattern+")", false)
	}
}

// P8.1, R1: the first error of a term, from the left, inner ones first.
func TestTermErrorsInOrder(t *testing.T) {
	const bad = "1 == source"
	for text, e := range map[string]api.Errno{
		`x == ""`: api.ErrName, `"" == x`: api.ErrName, `x == 1`: api.ErrName, `1 == x`: api.ErrName, `x == y`: api.ErrName, `x in x`: api.ErrName, "x + 1 < 2": api.ErrName, "lower(x) == 1": api.ErrName,
		bad: api.ErrArg, bad + " and x == y": api.ErrArg, "x == y and " + bad: api.ErrName, bad + " or x == y": api.ErrArg, "not " + bad: api.ErrArg, "not x == y": api.ErrName,
		"words(1) == x": api.ErrArg, "x == words(1)": api.ErrName, "words(x) == 1": api.ErrName, "words(1, x) == 1": api.ErrName, "count(1, x) == 2": api.ErrName, "count(words(1), x) == 2": api.ErrArg, "count(x, words(1)) == 1": api.ErrName,
		"has(1, x)": api.ErrName, "has(source, x)": api.ErrName, `has(x, "%")`: api.ErrName, `has(source, "%", x)`: api.ErrName, "starts(1, x)": api.ErrName, `starts("", 1 + "", x)`: api.ErrArg,
		"1 + x < 2": api.ErrName, `1 + "" < x`: api.ErrArg, `"" * 1 + x < 2`: api.ErrArg, `1 + x * "" < 2`: api.ErrName, `1 - source - x < 2`: api.ErrArg,
		`all x in x: x == ""`: api.ErrName, `all x in 1: x == ""`: api.ErrArg, `all x in 1: y == ""`: api.ErrName, "all x in 1: " + bad: api.ErrArg, `all x in words(1): y == ""`: api.ErrArg, `all x in words(y): x == 1`: api.ErrName,
		`any x in source: x == y`: api.ErrName, `any x in "": x == ""`: api.ErrArg, "any x in words(source): x == 1": api.ErrArg, "any x in words(source): x == y": api.ErrName,
		`(any x in words(source): x == "") and x == ""`: api.ErrName, `x == "" and any x in words(source): x == ""`: api.ErrName, `any x in words(source): all y in words(source): x == y and y == z`: api.ErrName,
		`any x in words(source): (all y in words(source): x == y) and x == y`: api.ErrName, `all y in words(source): any x in y: 1 < 2`: api.ErrArg, `all y in words(source): any x in x: 1 < 2`: api.ErrName,
		`any x in words(source): ((all x in tags(source): x == "") and x == "")`: api.OK, `any x in words(source): ((all y in tags(source): x == y) and x == "")`: api.OK, `all x in words(source): all x in words(target): x == x`: api.OK,
		`(all x in words(source): x == "") or all y in words(source): y == x`: api.ErrName, `all x in words(source): y == "" and x == 1`: api.ErrName, `all x in words(source): x == 1 and y == ""`: api.ErrArg,
	} {
		if e == api.OK {
			parsed(t, text)
		} else {
			fails(t, text, 0, e)
			fails(t, text+" or (", len(text)+5, api.ErrForm) // the form comes first
			fails(t, text+" or 01 < 2", len(text)+4, api.ErrForm)
		}
	}
}

// P8.1: trees that are not valid, and trees that are.
func TestPrintErrors(t *testing.T) {
	words := call("words", source)
	x := name("x")
	for _, bad := range []api.Term{
		{}, source, num(1), str("a"), x, words, add(num(1), num(2)), compare(x, "==", x), compare(num(1), "==", x), compare(num(1), "==", str("a")), compare(source, "==", source),
		{Kind: 17}, {Kind: 255}, {Kind: api.TeNone, Text: one}, name(one), {Kind: api.TeName, Text: one}, {Kind: api.TeOr}, {Kind: api.TeAnd}, {Kind: api.TeNot}, {Kind: api.TeAll}, {Kind: api.TeAny}, {Kind: api.TeTest}, {Kind: api.TeCompare}, {Kind: api.TeAdd},
		or(tree()), and(tree()), or(), not(num(1)), not(source), of(api.TeNot, "", tree(), tree()), of(api.TeNot, "x", tree()), of(api.TeOr, "or", tree(), tree()), of(api.TeAnd, "x", tree(), tree()),
		and(tree(), num(1)), or(source, tree()), compare(tree(), "==", tree()), compare(num(1), "=", num(1)), compare(num(1), "", num(1)), compare(num(1), "== 1 or 1 ==", num(1)), compare(num(1), " ==", num(1)), compare(num(1), "+", num(1)),
		of(api.TeCompare, "==", num(1)), of(api.TeCompare, "==", num(1), num(1), num(1)), {Kind: api.TeCompare, Text: "==", Num: 1, Subs: tree().Subs},
		compare(num(-1), "<", num(1)), compare(num(1), "<", num(-1)), compare(num(1000001), "<", num(1)), compare(add(num(1), num(-1)), "<", num(1)), compare(num(-9223372036854775808), "<", num(1)), compare(num(9223372036854775807), "<", num(1)),
		compare(api.Term{Kind: api.TeNumber, Num: 1, Text: "1"}, "<", num(1)), compare(of(api.TeNumber, "", num(1)), "<", num(1)), compare(api.Term{Kind: api.TeText, Num: 1}, "==", str("")), compare(of(api.TeText, "", str("")), "==", str("")),
		compare(str("\n"), "==", str("")), compare(str("\xff"), "==", str("")), compare(str("\x7f"), "==", str("")),
		compare(add(num(1), add(num(2), num(3))), "<", num(4)), compare(add(num(1), sub(num(2), num(3))), "<", num(4)), compare(mul(num(1), mul(num(2), num(3))), "<", num(4)), compare(mul(add(num(1), num(2)), num(3)), "<", num(4)), compare(mul(num(3), add(num(1), num(2))), "<", num(4)),
		compare(of(api.TeAdd, "+", num(1), num(2)), "<", num(3)), compare(of(api.TeAdd, "", num(1)), "<", num(3)), compare(of(api.TeAdd, "", num(1), num(2), num(3)), "<", num(3)), compare(of(api.TeMul, "", num(1), num(2), num(3)), "<", num(3)), compare(of(api.TeSub, "", num(1)), "<", num(3)),
		compare(of(api.TeSource, "source"), "<", num(3)), compare(call("length", of(api.TeSource, "x")), "<", num(3)), compare(call("length", of(api.TeTarget, "", num(1))), "<", num(3)), compare(call("length", api.Term{Kind: api.TeSource, Num: 1}), "<", num(3)), compare(call("length", name("source")), "<", num(3)),
		compare(call("size"), "<", num(3)), compare(call("size", words, words), "<", num(3)), compare(call("Size", words), "<", num(3)), compare(call("", words), "<", num(3)), compare(call("x", words), "<", num(3)), compare(call("size(words", source), "<", num(3)),
		call("has", source, str("a")), compare(test("length", source), "<", num(3)), test("has", source), test("has", source, str("%")), test("has", source, str("a"), str("a")), test("length", source), test("not", str("a"), str("b")), test("", str("a"), str("b")),
		all("x", words, name("x")), all("x", source, tree()), all("x", x, tree()), all("X", words, tree()), all("", words, tree()), all("x y", words, tree()), all("or", words, tree()), all("words", words, tree()), all("has", words, tree()), all("in", words, tree()), all("source", words, tree()), all("abcdefghijklm", words, tree()), all("x1", words, tree()),
		all("x", words, compare(name("y"), "==", str(""))), of(api.TeAll, "x", words), of(api.TeAny, "x", words, tree(), tree()), of(api.TeAny, "x", tree(), words), some1("x in tags(target): all x", words, tree()), {Kind: api.TeAll, Text: "x", Num: 2, Subs: []api.Term{words, tree()}},
		or(tree(), compare(add(num(1), add(num(2), num(3))), "<", num(4))), all("x", words, and(tree())), not(all("x", words, compare(x, "==", num(1)))),
	} {
		if s, e := checks.Print(bad); s != "" || e != api.ErrArg {
			t.Errorf("Print(%v): %q, error %d", bad, s, e)
		}
	}
	empty := compare(api.Term{Kind: api.TeText, Subs: []api.Term{}}, "==", str(""))
	if s, e := checks.Print(empty); s != `"" == ""` || e != api.OK {
		t.Errorf("%q, error %d", s, e)
	}
}

// P8.1: trees are the same just if they are so in all fields, whatever they are.
func TestSame(t *testing.T) {
	list := []api.Term{
		{}, {Kind: api.TeOr}, {Kind: 255}, {Text: "x"}, {Num: 1}, {Num: -1}, tree(), not(tree()), not(not(tree())), or(tree(), tree()), and(tree(), tree()), or(tree(), tree(), tree()), or(tree()), of(api.TeOr, "", nil...),
		compare(num(1), "==", num(2)), compare(num(2), "==", num(1)), compare(num(1), "!=", num(1)), compare(num(1), "==", name("1")), compare(str("1"), "==", num(1)), of(api.TeCompare, "==", num(1)), of(api.TeCompare, "==", num(1), num(1), num(1)),
		all("x", source, tree()), all("y", source, tree()), some1("x", source, tree()), all("x", target, tree()), all("x", source, not(tree())), {Kind: api.TeCompare, Text: "==", Num: 1, Subs: tree().Subs}, {Subs: []api.Term{{}}}, {Subs: []api.Term{{}, {}}}, {Subs: []api.Term{{Num: 1}, {}}}, {Subs: []api.Term{{}, {Num: 1}}},
	}
	for _, a := range list {
		for _, b := range list {
			if got := checks.Same(a, b); got != same(a, b) {
				t.Errorf("Same(%v, %v): %v", a, b, got)
			}
		}
	}
	empty := api.Term{Subs: []api.Term{}}
	if !checks.Same(empty, api.Term{}) || !checks.Same(api.Term{}, empty) || !checks.Same(not(empty), not(api.Term{})) {
		t.Error("an empty list is no nil list")
	}
}

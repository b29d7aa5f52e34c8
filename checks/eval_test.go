package checks_test

import (
	"strings"
	"testing"

	"truchman/api"
	"truchman/checks"
)

// P8.1: the values of functions, of the source and of the target alike.
func TestFunctions(t *testing.T) {
	for _, x := range []struct {
		side string
		true string // formulas about source that are true
	}{
		{"", `size(words(source)) == 0; size(tags(source)) == 0; size(holes(source)) == 0; size(numbers(source)) == 0; text(source) == ""; length(source) == 0; first(words(source)) == ""; last(tags(source)) == ""; count(words(source), "") == 0`},
		{"<b></b><x/>", `size(words(source)) == 0; size(tags(source)) == 3; first(tags(source)) == "<b>"; last(tags(source)) == "<x/>"; count(tags(source), "</b>") == 1; length(source) == 0; text(source) == ""; size(holes(source)) == 0`},
		{"{n}", `size(words(source)) == 1; size(holes(source)) == 1; first(words(source)) == "{n}"; first(holes(source)) == "{n}"; length(source) == 1; text(source) == ""; words(source) == holes(source); size(numbers(source)) == 0`},
		{"3 of {n}, <b>42</b> 4x \\{m} x5 007 3.5 {a-1}", `size(words(source)) == 15; last(words(source)) == "{a-1}"; count(words(source), ",") == 1; count(words(source), "{") == 1; count(words(source), "{m}") == 0; size(tags(source)) == 2; size(holes(source)) == 2; last(holes(source)) == "{a-1}"; size(numbers(source)) == 5; first(numbers(source)) == "3"; last(numbers(source)) == "5"; count(numbers(source), "3") == 2; count(numbers(source), "007") == 1; count(numbers(source), "42") == 1; length(source) == 30; text(source) == "3 of , 42 4x {m} x5 007 3.5 "`},
		{"é日 É", `length(source) == 4; size(words(source)) == 2; text(source) == "é日 É"; lower(text(source)) == "é日 É"; first(words(source)) == "é日"`},
		{"a A a", `count(words(source), "a") == 2; count(words(source), "A") == 1; count(words(source), "b") == 0; count(words(source), "") == 0; size(words(source)) == 3; first(words(source)) == "a"`},
		{"a \\< \\\\ \\{ b", `count(words(source), "<") == 1; count(words(source), "\\") == 1; count(words(source), "{") == 1; size(holes(source)) == 0; length(source) == 9; text(source) == "a < \\ { b"`},
		{"١ ² 12 ３", `size(numbers(source)) == 1; first(numbers(source)) == "12"`},
	} {
		for _, formula := range strings.Split(x.true, "; ") {
			p := api.Pair{Source: read(x.side), Target: read("other 9 <o/> {o}")}
			if !eval(t, formula, p) {
				t.Errorf("of %q not: %s", x.side, formula)
			}
			p.Source, p.Target = p.Target, p.Source
			if !eval(t, strings.ReplaceAll(formula, "source", "target"), p) {
				t.Errorf("of the target %q not: %s", x.side, formula)
			}
		}
	}
}

// P8.1: formulas that are true, and formulas that are not.
func TestEval(t *testing.T) {
	const million = "1000000"
	const most = million + " * " + million + " * 1000"
	p := pair("Net 12 <b>nets</b>, 7 {n} net. | Netz <b>Netze</b> 12, 7 {n}!")
	for formula, want := range map[string]bool{
		"1 == 1": true, "1 == 2": false, "1 != 1": false, "1 != 2": true, "1 < 2": true, "1 < 1": false, "2 < 1": false, "1 <= 1": true, "1 <= 2": true, "2 <= 1": false, "2 > 1": true, "1 > 1": false, "1 > 2": false, "1 >= 1": true, "2 >= 1": true, "1 >= 2": false,
		`"a" == "a"`: true, `"a" == "A"`: false, `"a" != "b"`: true, `"a" != "a"`: false, `"" == ""`: true, `"\"" == "\\"`: false, `"é" == "é"`: true,
		"words(source) == words(source)": true, "words(source) == words(target)": false, "words(source) != words(target)": true, "tags(source) == tags(target)": true, "tags(source) != tags(target)": false, "holes(source) == tags(source)": false,
		"1 + 2 == 3": true, "1 - 2 < 0": true, "1 - 2 + 1 == 0": true, "1 - 2 - 3 + 4 == 0": true, "2 * 3 * 4 == 24": true, "2 + 3 * 4 == 14": true, "2 * 3 + 4 == 10": true, "10 - 2 * 3 == 4": true, "10 - 4 - 3 == 3": true, "0 * 5 == 0": true, "5 * 0 == 0": true, "0 - 5 == 0 - 2 - 3": true, "0 - 5 < 0 - 4": true,
		most + " == " + most: true, most + " == " + most + " + 1": true, most + " == " + most + " - 1": false, most + " - 1 < " + most: true, most + " * 2 == " + most: true, most + " * " + most + " == " + most: true, most + " + " + most + " == " + most: true, most + " + 1 - 1 < " + most: true, most + " * 1 == " + most: true, most + " * 0 == 0": true,
		"0 - " + most + " == 0 - " + most + " - 1": true, "0 - " + most + " < 0 - " + most + " + 1": true, "0 - " + most + " - " + most + " + " + most + " == 0": true, "0 - " + most + " + 1 - 1 == 0 - " + most: true, "0 - " + most + " - 1 + 1 > 0 - " + most: true,
		million + " * " + million + " * 1001 == " + most: true, million + " * " + million + " * 999 == " + most: false, million + " * " + million + " * 999 + " + million + " * " + million + " == " + most: true, "1001 * " + million + " * " + million + " == " + most: true, "3 * 333333 * " + million + " * 1000 < " + most: true,
		// The last factor is the greatest one with which the product stays below the bound.
		"9298 * 10755 * 909091 * 11 < " + most: true, "9298 * 10755 * 909091 * 12 == " + most: true,
		`"nets" in words(source)`: true, `"Nets" in words(source)`: false, `"" in words(source)`: false, `"<b>" in words(source)`: false, `"<b>" in tags(source)`: true, `"{n}" in words(target)`: true, `"7" in numbers(target)`: true, `"7 " in numbers(target)`: false,
		"numbers(source) ~ numbers(target)": true, "words(source) ~ words(target)": false, "words(source) ~ words(source)": true, "tags(source) ~ holes(source)": false, "holes(source) ~ holes(target)": true,
		`starts(text(source), "Net")`: true, `starts(text(source), "net")`: false, `starts("a", "")`: true, `starts("", "a")`: false, `starts("ab", "abc")`: false, `starts("abc", "abc")`: true, `starts("xab", "ab")`: false,
		`ends(text(target), "!")`: true, `ends(text(target), "?")`: false, `ends("a", "")`: true, `ends("bc", "abc")`: false, `ends("abc", "bc")`: true, `ends("abx", "ab")`: false,
		`holds("abc", "b")`: true, `holds("abc", "ac")`: false, `holds("abc", "")`: true, `holds("", "")`: true, `holds("b", "abc")`: false, `holds("abc", "abc")`: true,
		`lower("AZaz") == "azaz"`: true, "lower(\"@[`{\") == \"@[`{\"": true, "lower(\"ÄÖİ\u212a\") == \"ÄÖİ\u212a\"": true, `lower("") == ""`: true, `lower(first(words(source))) == last(words(target))`: false, `lower(first(words(source))) in words(source)`: true,
		"not 1 == 2": true, "not 1 == 1": false, "not not 1 == 1": true, "1 == 1 and 1 == 2": false, "1 == 1 and 2 == 2": true, "1 == 2 and 1 == 1": false, "1 == 1 and 2 == 2 and 1 == 2": false, "1 == 1 or 1 == 2": true, "1 == 2 or 1 == 1": true, "1 == 2 or 2 == 1": false, "1 == 2 or 2 == 1 or 3 == 3": true,
		"1 == 1 or 1 == 1 and 1 == 2": true, "(1 == 1 or 1 == 1) and 1 == 2": false, "not 1 == 2 and 1 == 2": false, "not (1 == 2 and 1 == 2)": true, "not 1 == 1 or 1 == 1": true,
		`all x in words(source): x in words(target)`: false, `all x in numbers(source): x in numbers(target)`: true, `any x in words(source): x in words(target)`: true, `any x in words(source): x == "Netze"`: false, `all x in tags(source): 1 == 2`: false, `any x in tags(source): 1 == 1`: true, `any x in words(source): ends(x, "s")`: true, `all x in words(source): x != ""`: true,
		`all x in words(source): any x in words(target): x == "!"`: true, `all x in numbers(source): any y in numbers(target): x == y`: true, `any x in numbers(source): all y in numbers(target): x == y`: false, `any x in numbers(source): all x in numbers(target): x == x`: true, `any x in numbers(source): ((any x in words(source): x == "net") and x == "7")`: true, `any x in numbers(source): (x == "7" and any x in words(source): x == "net" and 1 == 1)`: true, `any x in numbers(source): ((all x in numbers(target): x != "net") and x == "net")`: false,
		`all x in words(source): x == first(words(source))`: false, `not all x in words(source): x == first(words(source))`: true,
	} {
		if got := eval(t, formula, p); got != want {
			t.Errorf("%s: %v", formula, got)
		}
	}
}

// P8.1: quantifiers over lists without elements, and lists that have the same elements.
func TestLists(t *testing.T) {
	for formula, want := range map[string]bool{
		`all x in words(source): 1 == 2`: true, `any x in words(source): 1 == 1`: false, `all x in words(target): 1 == 2`: false, `all x in words(source): all y in words(target): 1 == 2`: true, `any x in words(target): any y in words(source): 1 == 1`: false, `any x in words(target): all y in words(source): 1 == 2`: true,
		"words(source) == holes(source)": true, "words(source) ~ tags(target)": true, "words(source) != tags(target)": false, "words(source) ~ words(target)": false,
	} {
		if got := eval(t, formula, pair(" | a")); got != want {
			t.Errorf("%s: %v", formula, got)
		}
	}
	for texts, want := range map[string]bool{"a b | b a": true, "a a b | a b b": false, "a b b | b a b": true, "a a | a": false, "a | a a": false, "a b c | a b": false, "c b a | a b c": true, "a b | a c": false, " | ": true, "<b>a</b> b | b a": true} {
		if got := eval(t, "words(source) ~ words(target)", pair(texts)); got != want {
			t.Errorf("%s: %v", texts, got)
		}
		if got := eval(t, "words(source) == words(target)", pair(texts)); got != (texts == " | ") {
			t.Errorf("%s: %v", texts, got)
		}
	}
}

// P8.1: patterns of has, at the first place, at the last one, and between them.
func TestHas(t *testing.T) {
	for _, x := range []struct{ side, yes, no string }{
		{"", "  %b %b%b", "a %. %s %h"},
		{"a", " a %a %l %b%a %a%b %. %b a%b %b%b", "b aa %u %d %s %p %h %a%a %.%. %ba%bb a%ba"},
		{"ab Cd", " a ab b%s %s%u %u d d%b %bab b%b%s ab%b%sC Cd%b %a%a%s%a%a ab%.Cd", "ba abC ab%bC ab.Cd %d aC %l%u C%bd d%s %b%l%b ab.. %b.a"},
		{"a1 {n}.", "1 %d%b %s%h %h %h%p %h. %p%b .%b %d%s%h%p", "{n} n { %h%h %d%h 1{ ..  %d%b%h"},
		{"x<b>y</b><i/>{n}{m}", "xy y%h %h%h xy%h%h %bx %a%a", "< b <b> %p %s x%by y%b%h %h%bx %h%b%h"},
		{"100%", "%% 0%% %%%b %d%%", "%%%% %d%s"},
		{"é日", "é %a%a é日 日%b", "%l %u %p %.%.%."},
		{"a. B", ".%s%u", "%d.%s %p%u"},
		{"\\<b> \\{ \"\\\\", "< <b> { \" \\ \"\\ %p%s%p", "%h \\<"},
	} {
		for _, pattern := range strings.Split(x.yes, " ") {
			checkHas(t, x.side, pattern, true)
		}
		for _, pattern := range strings.Fields(x.no) {
			checkHas(t, x.side, pattern, false)
		}
	}
}

func checkHas(t *testing.T, side, pattern string, want bool) {
	t.Helper()
	quoted := strings.ReplaceAll(strings.ReplaceAll(pattern, `\`, `\\`), `"`, `\"`)
	if got := eval(t, `has(source, "`+quoted+`")`, pair(side+" | other {o}")); got != want {
		t.Errorf("has(%q, %q): %v", side, pattern, got)
	}
	if got := eval(t, `has(target, "`+quoted+`")`, pair("other {o} | "+side)); got != want {
		t.Errorf("has(%q, %q) of a target: %v", side, pattern, got)
	}
}

// P8.1: the errors of Eval and Explain, in their order.
func TestEvalErrors(t *testing.T) {
	good := pair("a | b")
	for _, x := range []struct {
		formula string
		p       api.Pair
		e       api.Errno
	}{
		{"", good, api.ErrForm}, {"1", good, api.ErrForm}, {strings.Repeat(" ", 1001), good, api.ErrLimit}, {strings.Repeat("not ", 23) + one, good, api.ErrLimit}, {"x == y", good, api.ErrName}, {"1 == source", good, api.ErrArg},
		{"x == y", api.Pair{Source: crooked()}, api.ErrName}, {"1 == source", api.Pair{Target: twisted()}, api.ErrArg},
		{one, api.Pair{Source: crooked()}, crookedIs}, {one, api.Pair{Target: crooked()}, crookedIs}, {one, api.Pair{Source: twisted()}, twistedIs}, {one, api.Pair{Target: twisted()}, twistedIs},
		{one, api.Pair{Source: crooked(), Target: twisted()}, crookedIs}, {one, api.Pair{Source: twisted(), Target: crooked()}, twistedIs}, {"1 == 2", api.Pair{Source: twisted(), Target: crooked()}, twistedIs},
		{"1 == 2 and has(source, \"a\")", api.Pair{Source: crooked(), Target: twisted()}, crookedIs},
	} {
		if is, e := checks.Eval(x.formula, x.p); is || e != x.e {
			t.Errorf("Eval(%.50q): %v, error %d, want %d", x.formula, is, e, x.e)
		}
		if is, l, e := checks.Explain(x.formula, x.p); is || l != nil || e != x.e {
			t.Errorf("Explain(%.50q): %v, %v, error %d, want %d", x.formula, is, l, e, x.e)
		}
	}
	long := api.Pair{Source: read(strings.Repeat("a ", api.MaxWords)), Target: read(strings.Repeat("b.", api.MaxWords/2))}
	if !eval(t, "size(words(source)) == 512 and size(words(target)) == 512", long) {
		t.Error("a pair with as many words as there may be")
	}
}

// P8.1: names are bound to what stands there, without a meaning of its own.
func TestBoundValues(t *testing.T) {
	p := pair("all {n} \\< 12 | all {n} \\< 12")
	for formula, want := range map[string]bool{
		`all x in words(source): x in words(target)`: true, `any x in words(source): x == "all"`: true, `any x in words(source): x == "{n}"`: true, `any x in words(source): x == "<"`: true, `any x in words(source): starts(x, "1")`: true, `any x in words(source): lower(x) == "{n}" and count(words(target), "12") == 1`: true,
	} {
		if got := eval(t, formula, p); got != want {
			t.Errorf("%s: %v", formula, got)
		}
	}
}

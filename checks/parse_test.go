package checks_test

import (
	"slices"
	"strings"
	"testing"

	"truchman/api"
	"truchman/checks"
)

// one is a comparison that any formula may have in it, and tree is its tree.
const one = "1 == 1"

func tree() api.Term { return compare(num(1), "==", num(1)) }

// P8.1, P8.3: formulas in their written form, with their trees.
func TestWrittenForms(t *testing.T) {
	words := call("words", source)
	a, b, c := compare(num(1), "<", num(2)), test("holds", str("a"), str("b")), compare(str("a"), "in", words)
	const x, y, z = `1 < 2`, `holds("a", "b")`, `"a" in words(source)`
	for text, want := range map[string]api.Term{
		one: tree(), x: a, y: b, z: c,
		`0 <= 1000000`:                         compare(num(0), "<=", num(1000000)),
		`1 > 2`:                                compare(num(1), ">", num(2)),
		`1 >= 2`:                               compare(num(1), ">=", num(2)),
		`1 != 2`:                               compare(num(1), "!=", num(2)),
		`words(source) ~ tags(target)`:         compare(words, "~", call("tags", target)),
		`words(source) == holes(target)`:       compare(words, "==", call("holes", target)),
		`numbers(source) != words(source)`:     compare(call("numbers", source), "!=", words),
		`"" == text(target)`:                   compare(str(""), "==", call("text", target)),
		`length(source) < size(words(source))`: compare(call("length", source), "<", call("size", words)),
		`first(words(source)) == last(words(source))`:                      compare(call("first", words), "==", call("last", words)),
		`count(words(source), "x") == 1`:                                   compare(call("count", words, str("x")), "==", num(1)),
		`lower("A") == "a"`:                                                compare(call("lower", str("A")), "==", str("a")),
		`has(source, "%d")`:                                                test("has", source, str("%d")),
		`starts("a", lower("b"))`:                                          test("starts", str("a"), call("lower", str("b"))),
		`ends("a", "")`:                                                    test("ends", str("a"), str("")),
		`"\"\\" == "a \" b"`:                                               compare(str(`"\`), "==", str(`a " b`)),
		`"é日😀" == "%<{&"`:                                                  compare(str("é日😀"), "==", str("%<{&")),
		`1 + 2 - 3 + 4 < 5`:                                                compare(add(sub(add(num(1), num(2)), num(3)), num(4)), "<", num(5)),
		`1 * 2 * 3 < 4`:                                                    compare(mul(mul(num(1), num(2)), num(3)), "<", num(4)),
		`1 + 2 * 3 - 4 * 5 < 6 * 7 + 8`:                                    compare(sub(add(num(1), mul(num(2), num(3))), mul(num(4), num(5))), "<", add(mul(num(6), num(7)), num(8))),
		x + " or " + y:                                                     or(a, b),
		x + " or " + y + " or " + z:                                        or(a, b, c),
		x + " and " + y + " and " + z:                                      and(a, b, c),
		x + " or " + y + " and " + z:                                       or(a, and(b, c)),
		x + " and " + y + " or " + z:                                       or(and(a, b), c),
		"(" + x + " or " + y + ") and " + z:                                and(or(a, b), c),
		x + " and (" + y + " or " + z + ")":                                and(a, or(b, c)),
		"(" + x + " or " + y + ") or " + z:                                 or(or(a, b), c),
		x + " or (" + y + " or " + z + ")":                                 or(a, or(b, c)),
		"(" + x + " and " + y + ") and " + z:                               and(and(a, b), c),
		x + " and (" + y + " and " + z + ")":                               and(a, and(b, c)),
		"not " + x:                                                         not(a),
		"not not " + y:                                                     not(not(b)),
		"not " + x + " and " + y:                                           and(not(a), b),
		"not (" + x + " and " + y + ")":                                    not(and(a, b)),
		"not (" + x + " or " + y + ")":                                     not(or(a, b)),
		`all n in words(source): n == "a"`:                                 all("n", words, compare(name("n"), "==", str("a"))),
		`any n in words(source): ` + x + " and " + y:                       and(some1("n", words, a), b),
		`any n in words(source): (` + x + " and " + y + ")":                some1("n", words, and(a, b)),
		`all n in words(source): (` + x + " or " + y + ")":                 all("n", words, or(a, b)),
		`all n in words(source): not ` + x:                                 all("n", words, not(a)),
		`not any n in words(source): all m in tags(target): n == m`:        not(some1("n", words, all("m", call("tags", target), compare(name("n"), "==", name("m"))))),
		`all n in words(source): any n in words(source): n == n`:           all("n", words, some1("n", words, compare(name("n"), "==", name("n")))),
		`any abcdefghijkl in words(source): abcdefghijkl in words(source)`: some1("abcdefghijkl", words, compare(name("abcdefghijkl"), "in", words)),
		`any allx in words(source): "allx" == allx`:                        some1("allx", words, compare(str("allx"), "==", name("allx"))),
	} {
		if got := parsed(t, text); !same(got, want) {
			t.Errorf("Parse(%q): %v, want %v", text, got, want)
		}
		if got, e := checks.Print(want); got != text || e != api.OK {
			t.Errorf("Print(%v): %q, error %d, want %q", want, got, e, text)
		}
	}
}

// P8.1: other texts of the same trees: blanks that may be there or not, parentheses that are not needed.
func TestOtherForms(t *testing.T) {
	for text, want := range map[string]string{
		"1==1": one, "  1  ==  1  ": one, "(1 == 1)": one, "((( 1==1)) )": one, "1 ==1 ": one,
		"1<=2": "1 <= 2", "1<2and 3<4": "1 < 2 and 3 < 4", "1<2and 3<4or 5<6": "1 < 2 and 3 < 4 or 5 < 6",
		"not(1<2)": "not 1 < 2", "not((1<2)and(3<4))": "not (1 < 2 and 3 < 4)",
		"(1<2 and 3<4) or (5<6)":                                  "1 < 2 and 3 < 4 or 5 < 6",
		"(1<2)or((3<4))or(5<6)":                                   "1 < 2 or 3 < 4 or 5 < 6",
		"1+2*3-4<5":                                               "1 + 2 * 3 - 4 < 5",
		`has(source,"<=")and"a"in words(source)`:                  `has(source, "<=") and "a" in words(source)`,
		`"a"in words ( source )`:                                  `"a" in words(source)`,
		`all n in words(source):n=="in"`:                          `all n in words(source): n == "in"`,
		`all n in words(source) : (n=="in")`:                      `all n in words(source): n == "in"`,
		`any n in words(source):(1<2 or 3<4)or 5<6`:               `any n in words(source): (1 < 2 or 3 < 4) or 5 < 6`,
		`all n in words(source):not not(n==n)and 1==1`:            `all n in words(source): not not n == n and 1 == 1`,
		`count(words(source),lower("A"))*2>0`:                     `count(words(source), lower("A")) * 2 > 0`,
		`"or"=="and"`:                                             `"or" == "and"`,
		`"  "=="a  b"`:                                            `"  " == "a  b"`,
		`1 == 1or 2 == 2`:                                         "1 == 1 or 2 == 2",
		`1 == 1and2 == 2`:                                         "1 == 1 and 2 == 2",
		strings.Repeat("(", 497) + one + strings.Repeat(")", 497): one,
	} {
		got := parsed(t, text)
		if !same(got, parsed(t, want)) {
			t.Errorf("Parse(%q): %v", text, got)
		}
		if s, e := checks.Print(got); s != want || e != api.OK {
			t.Errorf("Print of %q: %q, error %d", text, s, e)
		}
	}
}

// P8.1: words that may not be, and places where none begins. They come ahead of all other errors.
func TestWrongWords(t *testing.T) {
	for _, x := range []string{
		"00", "01", "007", "1000001", "0999999", "01000000", "9999999999999999999999999999999999999", "abcdefghijklm", "allallallalla",
		`"`, `"abc`, `"a\`, `"a\"`, `"a\a"`, `"\n"`, `"a\`, "\"\n\"", "\"\x7f\"", "\"\xff\"", "\"\x00\"", "\"é\xc3\"", "\"\xed\xa0\x80\"",
		"=", "!", "= =", "! =", "&", "|", "/", "%", "[", "]", "{", "}", ".", ";", "'", "?", "@", "#", "$", "^", "_", "\\", "`",
		"A", "Source", "é", "\xff", "\x00", "\t", "\n", "\r", "\u00a0", "\x7f", "×",
	} {
		fails(t, x, 0, api.ErrForm)
		fails(t, "   "+x, 3, api.ErrForm)
		fails(t, one+" or "+x, 10, api.ErrForm)
		fails(t, ") "+x+" or #", 2, api.ErrForm) // ahead of the parenthesis, which comes first
		fails(t, "(  source "+x, 10, api.ErrForm)
		fails(t, "1 in 2 "+x, 7, api.ErrForm) // and ahead of types
	}
	for text, at := range map[string]int{
		"1 === 1": 4, "1 !== 1": 4, "1 <== 1": 4, "1 >== 1": 4, "1 =! 1": 2, "1 =< 1": 2, "1 = = 1": 2, "1 ! = 1": 2, "aA == b": 1, "a_b == c": 1, "1_000 == 1": 1,
		`"a" == "b"" `: 10, `"a" == "\\"" or "`: 11, `"a" == "\\\" or "x`: 17, "0 == 00": 5, "1 == 12345678 or A": 5, "x <\t1": 3, "1.5 < 2": 1,
		"1 < 2 or abcdefghijklmn == 1": 9,
	} {
		fails(t, text, at, api.ErrForm)
	}
}

// P8.1: the first word with which no formula goes on, or the end.
func TestWrongPlaces(t *testing.T) {
	for text, at := range map[string]int{
		"": 0, " ": 1, "   ": 3, "or": 0, "and": 0, "in": 0, " ) ": 1, ",": 0, ":": 0, "+": 0, "-1 < 2": 0, "*": 0, "==": 0, "~": 0, "<": 0,
		"1": 1, "1 ": 2, "1 <": 3, "1 <  ": 5, "1 < 2 <": 6, "1 < 2 3": 6, "1 < 2 or": 8, "1 < 2 or ": 9, "1 < 2 or or": 9, "1 < 2 and or": 10, "1 < 2 not": 6,
		"1 < 2 (": 6, "1 < 2)": 5, "1 < 2 and )": 10, "(1 < 2": 6, "(1 < 2))": 7, "()": 1, "(1)": 2, "(1 + 2) < 3": 6, "1 < (2)": 4, "1 + (2) < 3": 4, "1 * -2 < 3": 4, "1 + < 2": 4,
		"not": 3, "not not": 7, "not and": 4, "not 1": 5, "not 1 <": 7, "not (": 5, "not )": 4, "not = ": 4,
		"all": 3, "all x": 5, "all x in": 8, "all x in y": 10, "all x in y:": 11, "all x in y: z": 13, "all x in y z": 11, "all x y": 6, "all x: y": 5, "all 1": 4, `all "x"`: 4,
		"all or": 4, "all in": 4, "all all": 4, "all source": 4, "all words": 4, "all has": 4, "all not": 4, "any any": 4, "any and": 4, "any target": 4, "any lower": 4, "any ends": 4,
		"all x in in": 9, "all x in (": 9, "all x in not": 9, "all x in y == ": 11, "all x in all": 9, "all x in has": 9, "all x in y: or": 12, "all x in y:: 1": 11, "all x in 1 + 2 :": 16, "all x in y, z": 10,
		"words": 5, "words(": 6, "words()": 6, "words source": 6, "words(source": 12, "words(source,": 13, "words(source,)": 13, "words(source target)": 13, "words(source)": 13, "words(source) words": 14,
		"words((source))": 6, "words(1 < 2)": 8, "words(not x)": 6, "words(words) == x": 11, "count(x, y": 10, "count(x,, y)": 8, "words: source": 5,
		"has": 3, "has(": 4, "has()": 4, "has(1": 5, "has(1,": 6, "has(1, 2": 8, "has(1, 2) <": 10, "has(1, 2) 1": 10, "has(1, 2) or": 12, "has(has(": 4, "1 + has(": 4, "1 < has(": 4, "has <": 4, "not has": 7,
		"source": 6, "source(": 6, "target target": 7, "x(": 1, "x(1)": 1, "x == y(": 6, "source == (": 10,
		"a in b in c": 7, "a ~ b ~ c": 6, "a == b == c": 7, "1 < 2 + 3 < 4": 10, "1 < 2 1": 6, `"a""b"`: 3, `"a" "b"`: 4, "1 2": 2, "x y": 2, "x1": 1, "1x": 1, "x not": 2, "not x not": 6,
		"1 == 1 and and": 11, "1 == 1 and not or": 15, "any x in y: z in": 16, "any x in y: z in w and": 22, "any x in y: (z in w": 19,
		`"or" or`: 5, `1 "<" 2`: 2, `"(" 1 == 1)`: 4, `1 == 1 "or" 1 == 1`: 7, `not "not"`: 9, `"words"(source)`: 7, `"has"(1, 2)`: 5, `all x "in"`: 6, `all "x" in y`: 4, `1 "in" 2`: 2, `1 "+" 2`: 2, `1 "*" 2 < 3`: 2, `(1 < 2 ")"`: 7, `words "("`: 6, `words(1 "," 2)`: 8,
		"(" + strings.Repeat("not ", 100): 401, strings.Repeat("(", 1000): 1000, strings.Repeat("not ", 250): 1000,
	} {
		fails(t, text, at, api.ErrForm)
	}
}

// P8.1: texts of MaxFormula bytes, and of one more.
func TestLongFormulas(t *testing.T) {
	long := `"` + strings.Repeat("a", api.MaxFormula-7) + `" == ""`
	if len(long) != api.MaxFormula+1 {
		t.Fatal(len(long))
	}
	fails(t, long, 0, api.ErrLimit)
	fails(t, strings.Repeat("=", api.MaxFormula+1), 0, api.ErrLimit)
	fails(t, strings.Repeat("=", api.MaxFormula), 0, api.ErrForm)
	fails(t, one+strings.Repeat(" ", api.MaxFormula-5), 0, api.ErrLimit)
	parsed(t, one+strings.Repeat(" ", api.MaxFormula-6))
	got := parsed(t, strings.Replace(long, "aa", "a", 1))
	if s, e := checks.Print(got); len(s) != api.MaxFormula || e != api.OK {
		t.Errorf("%d bytes, error %d", len(s), e)
	}
	got.Subs[0].Text += "a"
	if s, e := checks.Print(got); s != "" || e != api.ErrArg {
		t.Errorf("%d bytes, error %d", len(s), e)
	}
	// A formula that may be read, but whose written form is too long: its tree is not valid.
	got = parsed(t, strings.Repeat("1<2or ", 166)+"1<2")
	if s, e := checks.Print(got); s != "" || e != api.ErrArg || len(got.Subs) != 167 {
		t.Errorf("%q, error %d", s, e)
	}
}

// deep are formulas whose trees have a depth, with all that may stand in them.
func deep(n int) []string {
	sum := func(n int) string { return strings.Repeat("1 + ", n-2) + "1" }
	product := func(n int) string { return strings.Repeat("1 * ", n-2) + "1" }
	lower := func(n int) string { return strings.Repeat("lower(", n-2) + `"a"` + strings.Repeat(")", n-2) }
	alternating := one
	for i := range n - 2 {
		between := []string{" or ", " and "}[i%2]
		alternating = "(" + alternating + between + one + ")"
	}
	return []string{
		strings.Repeat("not ", n-2) + one,
		strings.Repeat("all x in words(source): ", n-2) + one,
		sum(n) + " < 1", "1 < " + sum(n), product(n) + " < 1", "1 < " + product(n), lower(n) + ` == "a"`, `has(source, "a") and "a" == ` + lower(n-1),
		one + " or " + strings.Repeat("not ", n-3) + one,
		alternating,
		"all x in words(source): " + strings.Repeat("any y in words(source): ", n-3) + `x == ""`,
		`starts("a", ` + lower(n) + ")",
	}
}

// P8.1: the deepest trees, and ones that are deeper by one.
func TestDeepFormulas(t *testing.T) {
	for _, text := range deep(api.MaxNest) {
		got := parsed(t, text)
		if s, e := checks.Print(got); e != api.OK || !same(parsed(t, s), got) {
			t.Errorf("%q: %q, error %d", text, s, e)
		}
	}
	for _, text := range deep(api.MaxNest + 1) {
		fails(t, text, 0, api.ErrLimit)
		fails(t, text+" and 1 == source", 0, api.ErrLimit) // ahead of types
		fails(t, "x == y and "+text, 0, api.ErrLimit)      // and of names
		fails(t, text+" and", len(text)+4, api.ErrForm)    // behind the form
	}
	x := parsed(t, deep(api.MaxNest)[0])
	for range 10000 {
		x = not(x)
		if s, e := checks.Print(x); s != "" || e != api.ErrArg {
			t.Fatalf("%q, error %d", s, e)
		}
	}
	// All Subs of a node are one tree: written out, they would never end.
	x = tree()
	for range api.MaxNest - 2 {
		x = or(slices.Repeat([]api.Term{x}, 100)...)
	}
	if s, e := checks.Print(x); s != "" || e != api.ErrArg {
		t.Errorf("%q, error %d", s, e)
	}
}

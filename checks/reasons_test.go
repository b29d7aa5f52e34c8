package checks_test

import (
	"fmt"
	"slices"
	"strings"
	"testing"

	"truchman/api"
	"truchman/checks"
	"truchman/docs"
)

// explained returns the reasons of a formula, as a text, behind its truth.
func explained(t *testing.T, formula string, p api.Pair) string {
	t.Helper()
	is, l, e := checks.Explain(formula, p)
	if e != api.OK || is != eval(t, formula, p) {
		t.Fatalf("Explain(%q): %v, error %d", formula, is, e)
	}
	return fmt.Sprint(is, ": ", shown(l))
}

// P8.1: reasons of formulas.
func TestExplain(t *testing.T) {
	p := pair("a b c | b 7 {n}")
	for formula, want := range map[string]string{
		"1<2": "true: +1 < 2", "1>2": "false: -1 > 2", "not 1<2": "false: +1 < 2", "not not(1>2)": "false: -1 > 2", `has(source,"b")`: `true: +has(source, "b")`, `starts("a" , "\"")`: `false: -starts("a", "\"")`,
		"1<2 and 2<3": "true: +1 < 2; +2 < 3", "1<2 and 2>3 and 3>4": "false: -2 > 3", "1>2 and 2>3": "false: -1 > 2", "1<2 or 2<3": "true: +1 < 2", "1>2 or 2<3 or 3<4": "true: +2 < 3", "1>2 or 2>3": "false: -1 > 2; -2 > 3",
		"not(1<2 and 2<3)": "false: +1 < 2; +2 < 3", "not(1<2 and 2>3)": "true: -2 > 3", "not(1>2 or 2>3)": "true: -1 > 2; -2 > 3", "not(1>2 or 2<3)": "false: +2 < 3", "not 1>2 and not 2>3": "true: -1 > 2; -2 > 3", "not 1<2 or 2<3": "true: +2 < 3",
		"(1<2 or 2>3)and(3>4 or 4>5)or 5<6 and 6<7": "true: +5 < 6; +6 < 7", "(1<2 or 2>3)and(3>4 or 4>5)or 5<6 and 6>7": "false: -3 > 4; -4 > 5; -6 > 7", "(1<2)and((2<3))": "true: +1 < 2; +2 < 3", "1<2 and 1<2": "true: +1 < 2; +1 < 2",
		`all x in words(source):x!="b"`: `false: -x != "b" x=b`, `all x in words(source):x!="d"`: `true: +x != "d" x=a; +x != "d" x=b; +x != "d" x=c`, `any x in words(source):x=="b"`: `true: +x == "b" x=b`, `any x in words(source):x=="d"`: `false: -x == "d" x=a; -x == "d" x=b; -x == "d" x=c`,
		`all x in tags(source):x=="b"`: `true: +all x in tags(source): x == "b"`, `any x in tags(source):(x=="b"or 1<2)`: `false: -any x in tags(source): (x == "b" or 1 < 2)`, `not any x in tags(source):x=="b"`: `true: -any x in tags(source): x == "b"`, `not all x in tags(source):1>2`: `false: +all x in tags(source): 1 > 2`,
		`all x in words(source):any y in words(target):x==y`: "false: -x == y x=a y=b; -x == y x=a y=7; -x == y x=a y={n}", `any x in words(source):any y in words(target):x==y`: "true: +x == y x=b y=b", `any x in words(source):all y in words(target):x!=y`: "true: +x != y x=a y=b; +x != y x=a y=7; +x != y x=a y={n}",
		`all x in words(source):all x in numbers(target):x=="7"`: `true: +x == "7" x=a x=7; +x == "7" x=b x=7; +x == "7" x=c x=7`, `any x in words(source):any y in tags(source):x==y`: "false: -any y in tags(source): x == y x=a; -any y in tags(source): x == y x=b; -any y in tags(source): x == y x=c",
		`all x in words(source):(x=="a"or x=="b")`: `false: -x == "a" x=c; -x == "b" x=c`, `all x in words(source):x=="a"or 1<2`: "true: +1 < 2", `all x in words(source):not x=="b"`: `false: +x == "b" x=b`, `any x in numbers(target):(x=="7"and not x=="8")`: `true: +x == "7" x=7; -x == "8" x=7`,
		`1<2 and(any x in words(source):x=="b")and all y in holes(target):starts(y,"{")`:                      `true: +1 < 2; +x == "b" x=b; +starts(y, "{") y={n}`,
		`any x in words(source):(x=="b"and all y in words(target):(y!=x or any x in numbers(target):x=="7"))`: `true: +x == "b" x=b; +x == "7" x=b y=b x=7; +y != x x=b y=7; +y != x x=b y={n}`,
		`any x in words(source):1<2`: "true: +1 < 2 x=a", `(all x in words(source):x!="b")or all x in words(source):x!="c"`: `false: -x != "b" x=b; -x != "c" x=c`, `count(words(source),"a")*2-1<length(target)`: `true: +count(words(source), "a") * 2 - 1 < length(target)`,
	} {
		if got := explained(t, formula, p); got != want {
			t.Errorf("%s: %s, want %s", formula, got, want)
		}
	}
}

// P8.1: of more reasons than there may be, the first ones.
func TestManyReasons(t *testing.T) {
	words := read(strings.Repeat("a b ", 256))
	p := api.Pair{Source: words, Target: read("x {n}")}
	for formula, want := range map[string]func(i int) string{
		`all x in words(source): x != "c"`:                                                    func(i int) string { return `+x != "c" x=` + "ab"[i%2:i%2+1] },
		`1 < 2 and all x in words(source): x != "c"`:                                          func(i int) string { return `+x != "c" x=` + "ba"[i%2:i%2+1] },
		`all x in words(source): (x != "c" and x != "d")`:                                     func(i int) string { return `+x != "` + "cd"[i%2:i%2+1] + `" x=` + "ab"[i/2%2:i/2%2+1] },
		`all x in words(source): all y in words(target): x != y`:                              func(i int) string { return `+x != y x=` + "ab"[i/2%2:i/2%2+1] + " y=" + []string{"x", "{n}"}[i%2] },
		`not any x in words(source): any y in words(target): any z in words(source): z == ""`: func(i int) string { return `-z == "" x=a y=x z=` + "ab"[i%2:i%2+1] },
	} {
		_, l, e := checks.Explain(formula, p)
		if e != api.OK || len(l) != api.MaxPieces {
			t.Fatalf("%s: %d reasons, error %d", formula, len(l), e)
		}
		for i, r := range l {
			if i > 0 || !strings.HasPrefix(formula, "1 < 2") {
				if got := shown([]api.Reason{r}); got != want(i) {
					t.Fatalf("%s: reason %d is %s, want %s", formula, i, got, want(i))
				}
			}
		}
	}
	p.Source = read(strings.Repeat("a ", 511))
	if _, l, _ := checks.Explain(`(all x in words(source): x == "a") and 1 < 2 and 3 < 4`, p); len(l) != api.MaxPieces || l[511].Formula != "1 < 2" {
		t.Errorf("%d reasons", len(l))
	}
	// A finding has no more either.
	found, e := checks.Report([]api.Rating{{Name: "m", Formula: `not ((all x in words(source): x == "a") and all x in words(source): x == "a")`}}, []api.Pair{p, p})
	if e != api.OK || len(found) != 2 || len(found[0].Reasons) != api.MaxPieces || !sameReasons(found[0].Reasons, found[1].Reasons) {
		t.Errorf("%d findings, error %d", len(found), e)
	}
}

// P8.1: a reason may be longer than a formula that may be read.
func TestLongReason(t *testing.T) {
	formula := "count(words(source)," + `"` + strings.Repeat(`\"`, 400) + `")` + strings.Repeat("+1", 20) + "==0"
	want := strings.NewReplacer("),", "), ", "+", " + ", "==", " == ", "(source),", "(source), ").Replace(formula)
	if got := explained(t, formula, pair("a | b")); got != "false: -"+want {
		t.Errorf("%s, want %s", got, want)
	}
	many := `any x in tags(source):(` + strings.TrimSuffix(strings.Repeat("1<2or ", 160), "or ") + ")"
	wide := `any x in tags(source): (` + strings.TrimSuffix(strings.Repeat("1 < 2 or ", 160), " or ") + ")"
	if got := explained(t, many, pair(" | ")); got != "false: -"+wide || len(wide) <= api.MaxFormula {
		t.Error(got)
	}
}

// The examples of the chapter.
func TestFormulaExamples(t *testing.T) {
	if !eval(t, `all n in numbers(source): n in numbers(target)`, pair("3 of 4 | 4 von 3")) {
		t.Error("no number is lost")
	}
	if got := explained(t, `length(target) < 3 or last(words(target)) == "."`, pair("x | abc")); got != `false: -length(target) < 3; -last(words(target)) == "."` {
		t.Error(got)
	}
}

// rated is three ratings without an error.
func rated() []api.Rating {
	return []api.Rating{
		{Name: "numbers", Formula: "numbers(source) ~ numbers(target)", Weight: 1000},
		{Name: "Länge <2> {x}", Formula: "length(target)<8", Weight: 0},
		{Name: "tags", Formula: "all x in tags(source): x in tags(target)", Weight: 7},
	}
}

func reported(t *testing.T, l []api.Rating, pairs ...api.Pair) string {
	t.Helper()
	found, e := checks.Report(l, pairs)
	if e != api.OK {
		t.Fatalf("Report(%v, %v): error %d", l, pairs, e)
	}
	var out []string
	for _, x := range found {
		out = append(out, fmt.Sprintf("%d.%d %s", x.Pair, x.Check, shown(x.Reasons)))
	}
	return strings.Join(out, " | ")
}

// P8.1: findings by pairs, then by ratings.
func TestReport(t *testing.T) {
	pairs := []api.Pair{pair("1 <b>2</b> | 2 1"), pair("1 | 1"), pair("1 2 | 3 4 5 6 7"), pair("<b>a</b> | <b>7</b> is long")}
	want := "0.2 -x in tags(target) x=<b> | 2.0 -numbers(source) ~ numbers(target) | 2.1 -length(target) < 8 | 3.0 -numbers(source) ~ numbers(target) | 3.1 -length(target) < 8"
	if got := reported(t, rated(), pairs...); got != want {
		t.Errorf("%s, want %s", got, want)
	}
	if got := reported(t, rated()); got != "" {
		t.Error(got)
	}
	if got := reported(t, nil, pairs...); got != "" {
		t.Error(got)
	}
	if got := reported(t, []api.Rating{{Name: "x", Formula: "1 == 2"}, {Name: "y", Formula: "not 1 == 1"}, {Name: "X", Formula: one}}, pairs[:2]...); got != "0.0 -1 == 2 | 0.1 +1 == 1 | 1.0 -1 == 2 | 1.1 +1 == 1" {
		t.Error(got)
	}
	if got := reported(t, []api.Rating{{Name: "x", Formula: "any x in tags(source): 1 == 1"}}, pair(" | ")); got != "0.0 -any x in tags(source): 1 == 1" {
		t.Error(got)
	}
}

// reportFaults are the errors of ratings and of pairs, in the order of the chapter.
func reportFaults() []reportFault {
	var list []reportFault
	rating := func(name string, e api.Errno, spoil func(r *api.Rating)) {
		list = append(list, reportFault{name, e, func(l *[]api.Rating, _ *[]api.Pair) { spoil(&(*l)[1]) }})
	}
	pairs := func(name string, e api.Errno, spoil func(l *[]api.Pair)) {
		list = append(list, reportFault{name, e, func(_ *[]api.Rating, l *[]api.Pair) { spoil(l) }})
	}
	list = append(list, reportFault{"too many ratings", api.ErrLimit, func(l *[]api.Rating, _ *[]api.Pair) { *l = append(*l, manyRatings(api.MaxChecks)...) }})
	for _, s := range []string{"", "\n", "\xff", "a\x7f", "\x00", "é\xc3"} {
		rating("the name "+s, api.ErrName, func(r *api.Rating) { r.Name = s })
	}
	rating("a name twice", api.ErrTwice, func(r *api.Rating) { r.Name = "numbers" })
	for _, n := range []int{-1, 1001, -1 << 63, 1<<63 - 1} {
		rating(fmt.Sprint("the weight ", n), api.ErrArg, func(r *api.Rating) { r.Weight = n })
	}
	for s, e := range map[string]api.Errno{"": api.ErrForm, "x == y": api.ErrName, "1 == source": api.ErrArg, strings.Repeat("not ", 23) + one: api.ErrLimit, one + strings.Repeat(" ", 1000): api.ErrLimit} {
		rating("the formula "+s, e, func(r *api.Rating) { r.Formula = s })
	}
	list = append(list, reportFault{"the last rating", api.ErrTwice, func(l *[]api.Rating, _ *[]api.Pair) { (*l)[2].Name = (*l)[1].Name }})
	pairs("too many pairs", api.ErrLimit, func(l *[]api.Pair) { *l = append(*l, make([]api.Pair, api.MaxSides)...) })
	pairs("a source", crookedIs, func(l *[]api.Pair) { (*l)[0].Source = crooked() })
	pairs("a target", twistedIs, func(l *[]api.Pair) { (*l)[0].Target = twisted() })
	pairs("a later source", crookedIs, func(l *[]api.Pair) { (*l)[1].Source = crooked() })
	pairs("a later target", api.ErrArg, func(l *[]api.Pair) { (*l)[1].Target = []api.Piece{{Kind: 99}} })
	return list
}

type reportFault struct {
	name  string
	e     api.Errno
	spoil func(l *[]api.Rating, pairs *[]api.Pair)
}

func manyRatings(n int) []api.Rating {
	var out []api.Rating
	for i := range n {
		out = append(out, api.Rating{Name: fmt.Sprint("n", i), Formula: "1 == 2", Weight: i})
	}
	return out
}

// P8.1, R1: the errors of Report, each by itself, and two at once.
func TestReportErrors(t *testing.T) {
	sound := func() []api.Pair { return []api.Pair{pair("1 | 2"), pair("<b/> | 1")} }
	list := reportFaults()
	for i, first := range list {
		for j := i; j < len(list); j++ {
			if strings.HasPrefix(first.name, "the formula") && strings.HasPrefix(list[j].name, "the formula") && i != j {
				continue // a rating has one formula
			}
			l, pairs := rated(), sound()
			list[j].spoil(&l, &pairs)
			first.spoil(&l, &pairs)
			if got, e := checks.Report(l, pairs); e != first.e || got != nil {
				t.Errorf("%s, %s: %v, error %d, want %d", first.name, list[j].name, got, e, first.e)
			}
		}
	}
	// An error of the first rating comes ahead of one of the second.
	l := rated()
	l[0].Formula, l[1].Name = "", ""
	if _, e := checks.Report(l, nil); e != api.ErrForm {
		t.Error(e)
	}
	l = rated()
	l[0].Weight, l[1].Name = -1, "numbers"
	if _, e := checks.Report(l, nil); e != api.ErrArg {
		t.Error(e)
	}
	// As many as there may be of everything.
	pairs := slices.Repeat(sound()[:1], api.MaxSides)
	found, e := checks.Report(manyRatings(api.MaxChecks), pairs)
	if e != api.OK || len(found) != api.MaxChecks*api.MaxSides || found[65].Pair != 1 || found[65].Check != 1 {
		t.Errorf("%d findings, error %d", len(found), e)
	}
}

// P8.1: the sum of weights.
func TestWeigh(t *testing.T) {
	finding := func(checks ...int) []api.Finding {
		var out []api.Finding
		for _, i := range checks {
			out = append(out, api.Finding{Pair: -5, Check: i})
		}
		return out
	}
	for _, x := range []struct {
		l    []api.Rating
		f    []api.Finding
		want int
		e    api.Errno
	}{
		{nil, nil, 0, api.OK}, {rated(), nil, 0, api.OK}, {rated(), finding(0), 1000, api.OK}, {rated(), finding(1), 0, api.OK}, {rated(), finding(2, 0, 2, 1, 0), 2014, api.OK}, {rated(), finding(2), 7, api.OK},
		{rated(), finding(3), 0, api.ErrArg}, {rated(), finding(-1), 0, api.ErrArg}, {rated(), finding(0, 0, 3), 0, api.ErrArg}, {nil, finding(0), 0, api.ErrArg}, {rated(), finding(1 << 62), 0, api.ErrArg},
		{[]api.Rating{{Weight: 1000}, {Weight: 0}}, finding(0, 1), 1000, api.OK}, {[]api.Rating{{Weight: 5, Formula: "x"}, {Weight: 5}}, finding(0, 1, 1), 15, api.OK}, // neither a name nor a formula
		{[]api.Rating{{Weight: 1}, {Weight: 1001}}, nil, 0, api.ErrArg}, {[]api.Rating{{Weight: 1}, {Weight: -1}}, finding(0), 0, api.ErrArg}, {[]api.Rating{{Weight: -1 << 63}}, nil, 0, api.ErrArg}, {[]api.Rating{{Weight: 1<<63 - 1}}, finding(0), 0, api.ErrArg},
		{manyRatings(64), finding(63, 62), 125, api.OK}, {manyRatings(65), finding(1), 0, api.ErrLimit}, {append(manyRatings(64), api.Rating{Weight: -1}), finding(99), 0, api.ErrLimit},
	} {
		if got, e := checks.Weigh(x.l, x.f); got != x.want || e != x.e {
			t.Errorf("Weigh(%d ratings, %v): %d, error %d, want %d, %d", len(x.l), x.f, got, e, x.want, x.e)
		}
	}
	if got, e := checks.Weigh(rated(), slices.Repeat(finding(0), 100000)); got != 100000000 || e != api.OK {
		t.Error(got, e)
	}
}

// R3, R4: what a report says is new, and stays as it was.
func TestReasonsAreNew(t *testing.T) {
	p := pair("a b c | d")
	formula := `all x in words(source): all y in words(source): (x != "" and y != "")`
	_, l, _ := checks.Explain(formula, p)
	_, again, _ := checks.Explain(formula, p)
	text := shown(l)
	for i := range l {
		for j := range l[i].Bounds {
			l[i].Bounds[j].Value += "x"
		}
		_ = append(l[i].Bounds, api.Bound{Name: "more"})
	}
	if shown(again) != text || shown(l) != strings.NewReplacer("=a", "=ax", "=b", "=bx", "=c", "=cx").Replace(text) {
		t.Errorf("%s, %s", shown(l), shown(again))
	}
	words, _ := docs.Words(p.Source)
	if strings.Join(words, " ") != "a b c" {
		t.Error(words)
	}
}

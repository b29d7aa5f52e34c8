package docs_test

import (
	"slices"
	"strings"
	"testing"

	"truchman/api"
	"truchman/docs"
)

// Tests of P1.3: rules, units, places.

func rules() []api.Break {
	return []api.Break{{Before: "%bDr.%s"}, {Before: "%p%s", After: "%u", Break: true}}
}

func TestCheckBreaks(t *testing.T) {
	for s, want := range map[string]api.Errno{
		"":                                       api.OK,
		"abc é日 <{\\":                            api.OK,
		"%a%u%l%d%s%p%h%.%%%b":                   api.OK,
		"%%a":                                    api.OK,
		"%":                                      api.ErrForm,
		"a%":                                     api.ErrForm,
		"%%%":                                    api.ErrForm,
		"%q":                                     api.ErrForm,
		"%A":                                     api.ErrForm,
		"% ":                                     api.ErrForm,
		"%é":                                     api.ErrForm,
		"a\n":                                    api.ErrForm,
		"%\n":                                    api.ErrForm,
		"\x7f":                                   api.ErrForm,
		"a\xff":                                  api.ErrForm,
		"%\xff":                                  api.ErrForm,
		strings.Repeat("a", api.MaxFits):         api.OK,
		strings.Repeat("é", api.MaxFits):         api.OK,
		strings.Repeat("%%", api.MaxFits):        api.OK,
		strings.Repeat("%b", api.MaxFits):        api.OK,
		strings.Repeat("a", api.MaxFits+1):       api.ErrLimit,
		strings.Repeat("%b", api.MaxFits+1):      api.ErrLimit,
		strings.Repeat("a", api.MaxFits+1) + "%": api.ErrForm,
		strings.Repeat("a", api.MaxFits+1) + "%qa": api.ErrForm,
	} {
		for _, b := range []api.Break{{Before: s}, {After: s}, {Before: "%b", After: s, Break: true}} {
			if e := docs.CheckBreaks([]api.Break{{}, b}); e != want {
				t.Errorf("%v: error %d, want %d", b, e, want)
			}
		}
	}
	long := strings.Repeat("a", api.MaxFits+1)
	for name, x := range map[string]struct {
		rules []api.Break
		want  api.Errno
	}{
		"none":               {nil, api.OK},
		"most":               {make([]api.Break, api.MaxBreaks), api.OK},
		"too many":           {make([]api.Break, api.MaxBreaks+1), api.ErrLimit},
		"too many, crooked":  {slices.Repeat([]api.Break{{Before: "%"}}, api.MaxBreaks+1), api.ErrLimit},
		"before ahead":       {[]api.Break{{Before: long, After: "%"}}, api.ErrLimit},
		"first rule decides": {[]api.Break{{After: long}, {Before: "%"}}, api.ErrLimit},
		"later rule":         {[]api.Break{{}, {}, {After: "%"}}, api.ErrForm},
	} {
		if e := docs.CheckBreaks(x.rules); e != x.want {
			t.Errorf("%s: error %d, want %d", name, e, x.want)
		}
	}
}

func TestUnits(t *testing.T) {
	for s, want := range map[string]int{
		"":                   0,
		"<b></b><br/>":       0,
		"abc":                3,
		"é{n}日":              3,
		`\<\\\{`:             3,
		"<b>a</b> <i>b</i>":  3,
		"<+b>{n}{m}</+b>":    2,
		"\U0001F600\u0301 x": 4,
	} {
		if n, e := docs.Units(read(t, s)); n != want || e != api.OK {
			t.Errorf("%q: %d units, error %d, want %d", s, n, e, want)
		}
	}
	for e, l := range crooked() {
		if n, f := docs.Units(l); n != 0 || f != e {
			t.Errorf("%v: %d units, error %d, want %d", l, n, f, e)
		}
	}
}

// Each item of a pattern, alone: which of these units it fits.
func TestPatternItems(t *testing.T) {
	sample := "AZaz09 !~@[`{/:" + "\u0080é日\U0001F600"
	l := append(pieces(text(sample)), gap("n"))
	all := []rune(sample)
	hole := len(all)
	for s, want := range map[string]string{
		"%a": "AZaz\u0080é日\U0001F600",
		"%u": "AZ",
		"%l": "az",
		"%d": "09",
		"%s": " ",
		"%p": "!~@[`{/:",
		"%.": sample,
		"%h": "",
		"é":  "é",
		"a":  "a",
		"A":  "A",
		"%%": "",
		"{":  "{",
		" ":  " ",
		"n":  "",
	} {
		for i, r := range append(all, 0) {
			fits := strings.ContainsRune(want, r)
			if i == hole {
				fits = s == "%." || s == "%h"
			}
			if got, e := docs.Fits(api.Break{After: s}, l, i); got != fits || e != api.OK {
				t.Errorf("%q ahead of unit %d (%q): %v, error %d", s, i, r, got, e)
			}
			if got, e := docs.Fits(api.Break{Before: s}, l, i+1); got != fits || e != api.OK {
				t.Errorf("%q behind unit %d (%q): %v, error %d", s, i, r, got, e)
			}
		}
	}
}

func TestFits(t *testing.T) {
	for _, x := range []struct {
		before, after, l string
		at               int
		want             bool
	}{
		{"", "", "", 0, true},
		{"%b%b", "%b", "", 0, true},
		{"%.", "", "", 0, false},
		{"", "", "abc", 1, true},
		{"", "", "abc", 3, true},
		{"a", "b", "abc", 1, true},
		{"a", "bc", "abc", 1, true},
		{"a", "bcd", "abc", 1, false},
		{"%.a", "", "abc", 1, false},
		{"ab", "", "abc", 2, true},
		{"ba", "", "abc", 2, false},
		{"abc", "", "abc", 3, true},
		{"", "abc", "abc", 0, true},
		{"", "%.", "abc", 3, false},
		{"%.", "", "abc", 0, false},
		{"%%", "%%", "%%", 1, true},
		{"%%%%", "", "%%", 2, true},
		{"a%%", "", "a%", 2, true},
		{"a%%", "", "ab", 2, false},
		// tags are no units
		{"ab", "c", "a<i>b</i>{n}", 2, false},
		{"ab", "%h", "a<i>b</i>{n}", 2, true},
		{"ab", "cd", "<b>a<i>b<br/></i>c</b>d", 2, true},
		// borders
		{"%b", "", "ab", 0, true},
		{"%b", "", "ab", 1, false},
		{"%b", "", "ab", 2, true},
		{"", "%b", "ab", 1, false},
		{"", "%b", "a b", 1, true},
		{"", "%b", "a  b", 2, true},
		{"", "%b", "a.b", 1, true},
		{"", "%b", "1é", 1, false},
		{"", "%b", "a{n}", 1, false},
		{"", "%b", "{n}{n}", 1, false},
		{"", "%b", "{n}.", 1, true},
		{"", "%b", "a<b>b</b>", 1, false},
		{"%ba%b", "", ".a.", 2, true},
		{"%ba%b", "", "ba.", 2, false},
		{"%ba%b", "", ".ab", 2, false},
		{"a%bb", "", "ab", 2, false},
		{"a%b.", "", "a.", 2, true},
		{"", "a%b", "a", 0, true},
		{"%b%ba%b%b", "", "a", 1, true},
		{"b", "%bc", "b c", 1, false},
		{"b", "%b c", "b c", 1, true},
	} {
		rule := api.Break{Before: x.before, After: x.after}
		for _, yes := range []bool{true, false} {
			rule.Break = yes
			if got, e := docs.Fits(rule, read(t, x.l), x.at); got != x.want || e != api.OK {
				t.Errorf("%q and %q at %d of %q: %v, error %d", x.before, x.after, x.at, x.l, got, e)
			}
		}
	}
}

func TestFitsErrors(t *testing.T) {
	for at, want := range map[int]api.Errno{-1: api.ErrArg, 0: api.OK, 3: api.OK, 4: api.ErrArg, 1 << 62: api.ErrArg, -1 << 63: api.ErrArg} {
		if fits, e := docs.Fits(api.Break{}, read(t, "a<b>b</b>{n}"), at); e != want || fits != (e == api.OK) {
			t.Errorf("at %d: %v, error %d, want %d", at, fits, e, want)
		}
	}
	for e, l := range crooked() {
		if fits, f := docs.Fits(api.Break{}, l, -1); fits || f != e {
			t.Errorf("%v: %v, error %d, want %d", l, fits, f, e)
		}
	}
	if fits, e := docs.Fits(api.Break{Before: strings.Repeat("a", 33)}, pieces(open("b")), -1); fits || e != api.ErrLimit {
		t.Errorf("rule ahead of pieces: error %d", e)
	}
	if fits, e := docs.Fits(api.Break{After: "%"}, pieces(open("b")), -1); fits || e != api.ErrForm {
		t.Errorf("rule ahead of pieces: error %d", e)
	}
}

func TestBreaks(t *testing.T) {
	yes := []api.Break{{Break: true}}
	for _, x := range []struct {
		rules []api.Break
		l     string
		want  []int
	}{
		{rules(), "Dr. A is in. Go", []int{13}},
		{rules(), "Dr. A is in. <b>Go. <i>Now</i></b>", []int{13, 17}},
		{rules(), "xDr. A", []int{5}},
		{rules()[1:], "Dr. A is in. Go", []int{4, 13}},
		{[]api.Break{rules()[1], rules()[0]}, "Dr. A", []int{4}},
		{nil, "a. B", nil},
		{yes, "", nil},
		{yes, "a", nil},
		{yes, "<b>a</b>", nil},
		{yes, "<b>ab</b>{n}", []int{1, 2}},
		{[]api.Break{{}, {Break: true}}, "abc", nil},
		{[]api.Break{{Before: "b"}, {Break: true}}, "abc", []int{1}},
		{[]api.Break{{Before: "b", Break: true}, {}}, "abc", []int{2}},
		{[]api.Break{{Before: "%h", Break: true}}, "{n}{n}{n}", []int{1, 2}},
	} {
		if at, e := docs.Breaks(x.rules, read(t, x.l)); !slices.Equal(at, x.want) || e != api.OK {
			t.Errorf("%v in %q: %v, error %d, want %v", x.rules, x.l, at, e, x.want)
		}
	}
	for e, l := range crooked() {
		if at, f := docs.Breaks(yes, l); at != nil || f != e {
			t.Errorf("%v: %v, error %d, want %d", l, at, f, e)
		}
	}
	if at, e := docs.Breaks([]api.Break{{Before: "%"}}, pieces(open("b"))); at != nil || e != api.ErrForm {
		t.Errorf("rules ahead of pieces: %v, error %d", at, e)
	}
	if at, e := docs.Breaks(make([]api.Break, api.MaxBreaks+1), pieces(open("b"))); at != nil || e != api.ErrLimit {
		t.Errorf("rules ahead of pieces: %v, error %d", at, e)
	}
}

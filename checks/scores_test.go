package checks_test

import (
	"fmt"
	"slices"
	"strings"
	"testing"

	"truchman/api"
	"truchman/checks"
)

func fraction(num, den int64) api.Fraction { return api.Fraction{Num: num, Den: den} }

// rows makes lists of words of a text: "a b; c".
func rows(s string) [][]string {
	var out [][]string
	for _, row := range strings.Split(s, ";") {
		out = append(out, fields(row))
	}
	return out
}

// P8.2: matches of grams.
func TestMatches(t *testing.T) {
	for _, x := range []struct {
		a, b                      string
		n, matches, first, second int
	}{
		{"", "", 1, 0, 0, 0}, {"", "", 4, 0, 0, 0}, {"a", "", 1, 0, 1, 0}, {"", "a b", 1, 0, 0, 2}, {"a", "a", 1, 1, 1, 1}, {"a", "A", 1, 0, 1, 1}, {"a", "a", 2, 0, 0, 0},
		{"a b", "b a", 1, 2, 2, 2}, {"a b", "b a", 2, 0, 1, 1}, {"a b", "a b", 2, 1, 1, 1}, {"a a a", "a a", 1, 2, 3, 2}, {"a a", "a a a", 1, 2, 2, 3}, {"a a a", "a a", 2, 1, 2, 1}, {"a a a a", "a b a a a", 2, 2, 3, 4},
		{"a b c d", "a b c d", 3, 2, 2, 2}, {"a b c d", "a b c d", 4, 1, 1, 1}, {"a b c d e", "b c d e a", 4, 1, 2, 2}, {"a b c", "a b c", 4, 0, 0, 0}, {"a b c d", "a b d c", 4, 0, 1, 1}, {"x a b y a b", "a b a b z", 2, 2, 5, 4}, {"ab c", "a bc", 2, 0, 1, 1}, {"a b x c d", "a b y c d", 2, 2, 4, 4},
		{"a b c", "c b a c b", 1, 3, 3, 5}, {"a a b b", "b b b a", 1, 3, 4, 4}, {"a b a b a", "b a b", 3, 1, 3, 1},
	} {
		matches, first, second, e := checks.Matches(fields(x.a), fields(x.b), x.n)
		if matches != x.matches || first != x.first || second != x.second || e != api.OK {
			t.Errorf("Matches(%s, %s, %d): %d, %d, %d, error %d", x.a, x.b, x.n, matches, first, second, e)
		}
	}
	// Any strings are words.
	odd := []string{"", "", "a b", "\xff", "a", "b"}
	if m, first, second, e := checks.Matches(odd, []string{"", "a b", "\xff", "", ""}, 2); m != 3 || first != 5 || second != 4 || e != api.OK {
		t.Error(m, first, second, e)
	}
	if m, _, _, e := checks.Matches([]string{"a", ""}, []string{"a", "", ""}, 2); m != 1 || e != api.OK {
		t.Error(m, e)
	}
	long := repeated("a", api.MaxWords)
	if m, first, second, e := checks.Matches(long, long[1:], 4); m != 508 || first != 509 || second != 508 || e != api.OK {
		t.Error(m, first, second, e)
	}
}

// P8.2, R1: the errors of Matches, in their order.
func TestMatchesErrors(t *testing.T) {
	long := repeated("a", api.MaxWords+1)
	for _, x := range []struct {
		a, b []string
		n    int
		e    api.Errno
	}{
		{long, nil, 1, api.ErrLimit}, {nil, long, 1, api.ErrLimit}, {long, long, 0, api.ErrLimit}, {nil, long, 5, api.ErrLimit},
		{nil, nil, 0, api.ErrArg}, {nil, nil, 5, api.ErrArg}, {fields("a"), fields("a"), -1, api.ErrArg}, {long[1:], long[1:], 1 << 62, api.ErrArg}, {nil, nil, -1 << 63, api.ErrArg},
	} {
		if m, first, second, e := checks.Matches(x.a, x.b, x.n); m != 0 || first != 0 || second != 0 || e != x.e {
			t.Errorf("Matches(%d words, %d words, %d): %d, %d, %d, error %d", len(x.a), len(x.b), x.n, m, first, second, e)
		}
	}
}

// P8.2: which part of the grams are matches.
func TestPrecision(t *testing.T) {
	for _, x := range []struct {
		a, b string
		n    int
		want api.Fraction
	}{
		{"", "", 1, fraction(0, 1)}, {"", "a", 1, fraction(0, 1)}, {"a", "", 1, fraction(0, 1)}, {"a", "a", 2, fraction(0, 1)}, {"a b", "b c", 1, fraction(1, 2)}, {"a b c d", "a b x c d", 2, fraction(2, 3)}, {"a b; c", "a b; d", 1, fraction(2, 3)}, {"a b; c", "c; a b", 1, fraction(0, 1)},
		{"a b; c d", "a b; x", 1, fraction(1, 2)}, {"a; b; c c c c", "x; b; c c c c", 1, fraction(5, 6)}, {"a a a a", "a", 1, fraction(1, 4)}, {"a", "a a a a", 1, fraction(1, 1)}, {"a b c; a b c d", "a b c; b c d a", 3, fraction(2, 3)}, {"a; ; b", "a; x; b", 1, fraction(1, 1)},
	} {
		if got, e := checks.Precision(rows(x.a), rows(x.b), x.n); got != x.want || e != api.OK {
			t.Errorf("Precision(%s, %s, %d): %v, error %d, want %v", x.a, x.b, x.n, got, e, x.want)
		}
	}
	many := slices.Repeat([][]string{fields("a b c")}, api.MaxSides)
	few := slices.Repeat([][]string{fields("a")}, api.MaxSides)
	if got, e := checks.Precision(many, few, 1); got != fraction(1, 3) || e != api.OK {
		t.Error(got, e)
	}
	if got, e := checks.Precision(nil, nil, 99); got != fraction(0, 1) || e != api.OK { // no pair has the error
		t.Error(got, e)
	}
}

// P8.2, R1: the errors of Precision and Rate, in their order.
func TestSidesErrors(t *testing.T) {
	long := [][]string{repeated("a", api.MaxWords+1)}
	many := make([][]string, api.MaxSides+1)
	for _, x := range []struct {
		a, b  [][]string
		n     int
		e     api.Errno // of Precision
		ofRow api.Errno // of Rate
	}{
		{many, many, 1, api.ErrLimit, api.ErrLimit}, {many, nil, 0, api.ErrLimit, api.ErrLimit}, {nil, many, 1, api.ErrArg, api.ErrArg}, {nil, rows("a"), 1, api.ErrArg, api.ErrArg}, {rows("a; b"), rows("a"), 9, api.ErrArg, api.ErrArg}, {rows("a; b"), long, 1, api.ErrArg, api.ErrArg},
		{long, rows(""), 1, api.ErrLimit, api.ErrLimit}, {rows(""), long, 0, api.ErrLimit, api.ErrLimit}, {append(rows("a"), long...), rows("a; b"), 1, api.ErrLimit, api.ErrLimit}, {append(rows("a"), long...), rows("a; b"), 0, api.ErrArg, api.ErrLimit}, {rows("a"), rows("a"), 5, api.ErrArg, api.OK},
	} {
		zero := api.Fraction{}
		if got, e := checks.Precision(x.a, x.b, x.n); got != zero || e != x.e {
			t.Errorf("Precision of %d and %d lists: %v, error %d, want %d", len(x.a), len(x.b), got, e, x.e)
		}
		if got, e := checks.Rate(x.a, x.b); e != x.ofRow || e != api.OK && got != zero {
			t.Errorf("Rate of %d and %d lists: %v, error %d, want %d", len(x.a), len(x.b), got, e, x.ofRow)
		}
	}
}

// steps writes a row of steps by their letters.
func steps(l []api.EditKind) string {
	out := ""
	for _, k := range l {
		out += "KSDP"[k : k+1]
	}
	return out
}

// P8.2: rows of steps; of several with equally few the least one.
func TestEdits(t *testing.T) {
	for _, x := range []struct {
		a, b, want string
		n          int
	}{
		{"", "", "", 0}, {"a", "", "D", 1}, {"", "a", "P", 1}, {"a", "a", "K", 0}, {"a", "b", "S", 1}, {"a", "A", "S", 1}, {"a b c", "a c d", "KSS", 2}, {"a b", "b", "DK", 1}, {"a b", "a", "KD", 1}, {"b", "a b", "PK", 1}, {"a", "a b", "KP", 1},
		{"a a", "a", "KD", 1}, {"a", "a a", "KP", 1}, {"a b", "b a", "SS", 2}, {"a b c", "b c a", "DKKP", 2}, {"b c a", "a b c", "PKKD", 2}, {"a b c d", "b c d", "DKKK", 1}, {"x y", "a", "SD", 2}, {"a", "x y", "SP", 2}, {"x a", "a y y", "SSP", 3}, {"a b c d e", "a x c e", "KSKDK", 2}, {"a b a b", "b a b a", "DKKKP", 2},
		{"a a b", "b", "DDK", 2}, {"a b b", "b", "DKD", 2}, {"b", "a b b", "PKP", 2}, {"a b", "c a b d", "PKKP", 2}, {"k i t t e n", "s i t t i n g", "SKKKSKP", 3}, {"a x b", "b y a", "SSS", 3},
	} {
		l, n, e := checks.Edits(fields(x.a), fields(x.b))
		if steps(l) != x.want || n != x.n || e != api.OK {
			t.Errorf("Edits(%s, %s): %s, %d, error %d, want %s, %d", x.a, x.b, steps(l), n, e, x.want, x.n)
		}
	}
	if l, n, e := checks.Edits([]string{"", "\xff", "a b"}, []string{"\xff", "a b", ""}); steps(l) != "DKKP" || n != 2 || e != api.OK {
		t.Error(steps(l), n, e)
	}
	long := repeated("a", api.MaxWords)
	if l, n, e := checks.Edits(long, repeated("b", api.MaxWords)); steps(l) != strings.Repeat("S", api.MaxWords) || n != api.MaxWords || e != api.OK {
		t.Error(n, e)
	}
	for _, x := range [][2][]string{{append(long, "a"), nil}, {nil, append(long, "a")}, {append(long, "a"), append(long, "a")}} {
		if l, n, e := checks.Edits(x[0], x[1]); l != nil || n != 0 || e != api.ErrLimit {
			t.Errorf("Edits(%d words, %d words): %v, %d, error %d", len(x[0]), len(x[1]), l, n, e)
		}
	}
}

// P8.2: steps for each word of the second lists.
func TestRate(t *testing.T) {
	for _, x := range []struct {
		a, b string
		want api.Fraction
	}{
		{"", "", fraction(0, 1)}, {"a", "", fraction(0, 1)}, {"", "a", fraction(1, 1)}, {"a", "a", fraction(0, 1)}, {"a b c", "a c d", fraction(2, 3)}, {"a b c", "d", fraction(3, 1)}, {"a; b", "a; c d", fraction(2, 3)}, {"a; b c", "; b c", fraction(1, 2)}, {"a b; c d", "b a; c d", fraction(1, 2)}, {"a b c d e f", "a b", fraction(2, 1)},
	} {
		if got, e := checks.Rate(rows(x.a), rows(x.b)); got != x.want || e != api.OK {
			t.Errorf("Rate(%s, %s): %v, error %d, want %v", x.a, x.b, got, e, x.want)
		}
	}
	if got, e := checks.Rate(nil, nil); got != fraction(0, 1) || e != api.OK {
		t.Error(got, e)
	}
	many := slices.Repeat([][]string{fields("a b c")}, api.MaxSides)
	if got, e := checks.Rate(many, slices.Repeat([][]string{fields("a x")}, api.MaxSides)); got != fraction(1, 1) || e != api.OK {
		t.Error(got, e)
	}
}

// P8.2: texts compared by their units.
func TestUnitF(t *testing.T) {
	for _, x := range []struct {
		a, b    string
		n, beta int
		want    api.Fraction
	}{
		{"ab", "abc", 1, 1, fraction(4, 5)}, {"", "", 1, 1, fraction(0, 1)}, {"a", "", 1, 1, fraction(0, 1)}, {"", "a", 3, 3, fraction(0, 1)}, {"a", "b", 1, 1, fraction(0, 1)}, {"a", "a", 1, 1, fraction(1, 1)}, {"a", "a", 2, 1, fraction(1, 2)}, {"a", "a", 3, 1, fraction(1, 3)}, {"abc", "abc", 3, 2, fraction(1, 1)},
		{"ab", "abc", 1, 2, fraction(5, 7)}, {"abc", "ab", 1, 2, fraction(10, 11)}, {"ab", "abc", 1, 3, fraction(20, 29)}, {"ab", "abc", 2, 1, fraction(14, 19)}, {"ab", "ba", 2, 1, fraction(1, 2)}, {"é日", "日é", 1, 1, fraction(1, 1)}, {"é", "\u00c3", 1, 1, fraction(0, 1)}, {"a b", "ab", 1, 1, fraction(4, 5)}, {"aab", "abb", 1, 1, fraction(2, 3)}, {"\\<b>", "<b>{", 1, 1, fraction(3, 4)},
	} {
		if got, e := checks.UnitF(x.a, x.b, x.n, x.beta); got != x.want || e != api.OK {
			t.Errorf("UnitF(%q, %q, %d, %d): %v, error %d, want %v", x.a, x.b, x.n, x.beta, got, e, x.want)
		}
	}
	long := strings.Repeat("é", api.MaxUnits)
	if got, e := checks.UnitF(long, long, 3, 3); got != fraction(1, 1) || e != api.OK {
		t.Error(got, e)
	}
}

// P8.2, R1: the errors of UnitF, in their order.
func TestUnitFErrors(t *testing.T) {
	long := strings.Repeat("a", api.MaxUnits+1)
	for _, x := range []struct {
		a, b    string
		n, beta int
		e       api.Errno
	}{
		{"\n", "", 1, 1, api.ErrForm}, {"", "\xff", 1, 1, api.ErrForm}, {"a\x7f", long, 0, 0, api.ErrForm}, {long, "\x00", 0, 0, api.ErrForm}, {long + "\n", "", 1, 1, api.ErrForm}, {long, "", 1, 1, api.ErrLimit}, {"", long, 1, 1, api.ErrLimit}, {long, long, 0, 9, api.ErrLimit},
		{"", "", 0, 1, api.ErrArg}, {"", "", 4, 1, api.ErrArg}, {"", "", 1, 0, api.ErrArg}, {"", "", 1, 4, api.ErrArg}, {"a", "a", -1, 1, api.ErrArg}, {"a", "a", 1, -1, api.ErrArg}, {"a", "a", 1 << 62, 1, api.ErrArg}, {"a", "a", 1, -1 << 63, api.ErrArg},
	} {
		if got, e := checks.UnitF(x.a, x.b, x.n, x.beta); got != (api.Fraction{}) || e != x.e {
			t.Errorf("UnitF(%.10q, %.10q, %d, %d): %v, error %d, want %d", x.a, x.b, x.n, x.beta, got, e, x.e)
		}
	}
}

// P8.2: draws, worked out by another program.
func TestDraws(t *testing.T) {
	for _, x := range []struct {
		seed    uint64
		n, many int
		want    string
	}{
		{0, 10, 0, "[]"}, {5, 1, 2, "[[0] [0]]"}, {0, 3, 2, "[[1 0 1] [1 1 0]]"}, {1<<64 - 1, 4, 2, "[[0 1 1 2] [2 3 1 0]]"}, {7, 256, 1, "[[215 28 2 203 218 17 246 254 97 105 235 44 78 48 230 248 175 199 53 248 47 205 157 255 48 233 186 95 71 29 120 172 200 210 1 43 112 117 7 91 225 201 64 236 130 246 15 126 86 232 138 34 82 230 43 19 14 167 170 66 230 218 138 184 153 107 17 67 191 182 206 229 108 101 68 113 66 136 84 107 19 198 47 214 54 47 246 237 198 13 104 137 73 146 195 214 172 42 48 121 75 223 116 149 210 232 184 101 130 160 102 98 8 137 245 231 199 72 127 195 156 99 242 37 156 19 30 14 194 167 103 1 24 144 22 250 211 82 148 131 234 255 219 144 123 183 151 216 86 0 219 178 172 231 250 233 24 38 169 160 253 187 82 136 142 11 212 111 159 169 111 179 196 191 125 135 85 118 59 82 24 126 24 3 92 60 176 92 173 227 184 131 117 144 237 207 93 192 247 42 238 203 7 236 247 212 51 220 83 252 66 91 204 220 27 254 44 100 236 108 248 227 174 156 45 254 7 246 231 151 239 132 50 147 106 34 59 87 78 93 28 184 68 69 229 88 133 214 9 57 239 125 4 75 15 61]]"}, {1234567, 5, 1, "[[2 3 3 1 1]]"},
	} {
		got, e := checks.Draws(x.seed, x.n, x.many)
		if text := fmt.Sprint(got); e != api.OK || text != x.want {
			t.Errorf("Draws(%d, %d, %d): %s, error %d, want %s", x.seed, x.n, x.many, text, e, x.want)
		}
	}
	got, e := checks.Draws(3, api.MaxSides, api.MaxDraws)
	if e != api.OK || len(got) != api.MaxDraws || len(got[999]) != api.MaxSides {
		t.Errorf("%d draws, error %d", len(got), e)
	}
	for _, x := range [][2]int{{0, 1}, {-1, 1}, {257, 1}, {1, -1}, {1, 1001}, {0, -1}, {1 << 62, 1}, {1, 1 << 62}, {-1 << 63, 0}, {0, 0}} {
		if got, e := checks.Draws(1, x[0], x[1]); got != nil || e != api.ErrArg {
			t.Errorf("Draws(1, %d, %d): %v, error %d", x[0], x[1], got, e)
		}
	}
}

// parts reads parts: "1/2 3/0".
func parts(s string) []api.Fraction {
	var out []api.Fraction
	for _, x := range fields(s) {
		var f api.Fraction
		fmt.Sscanf(x, "%d/%d", &f.Num, &f.Den)
		out = append(out, f)
	}
	return out
}

// draws makes draws of digits: "0 12 2".
func draws(s string) [][]int {
	var out [][]int
	for _, x := range fields(s) {
		var draw []int
		for _, r := range x {
			draw = append(draw, int(r-'0'))
		}
		out = append(out, draw)
	}
	return out
}

// P8.2: intervals.
func TestInterval(t *testing.T) {
	const three = "1/2 2/6 0/0"
	for _, x := range []struct {
		parts, draws string
		out          int
		want         string
	}{
		{"1/2", "0", 0, "1/2 1/2"}, {"1/2", "0", 499, "1/2 1/2"}, {"2/4", "0 00 000", 0, "1/2 1/2"}, {"0/0", "0", 0, "0/1 0/1"}, {"5/0", "0", 0, "0/1 0/1"}, {"0/7", "0", 0, "0/1 0/1"}, {"1000000/1", "00", 0, "1000000/1 1000000/1"}, {"1/1000000", "0", 0, "1/1000000 1/1000000"},
		{three, "0 1 2 01", 0, "0/1 1/2"}, {three, "0 1 2 01", 249, "0/1 1/2"}, {three, "0 1 2 01", 250, "1/3 3/8"}, {three, "0 1 2 01", 499, "1/3 3/8"}, {three, "01 2 1", 333, "0/1 3/8"}, {three, "01 2 1", 334, "1/3 1/3"}, {three, "2 01 1", 400, "1/3 1/3"}, {three, "1 01 0 2 12 011", 167, "1/3 3/8"}, {three, "1 01 0 2 12 011", 334, "1/3 5/14"}, {three, "012", 0, "3/8 3/8"},
		{"1/3 2/3", "0 1 0 1 0", 200, "1/3 2/3"}, {"1/3 2/3", "0 1 0 1 0", 400, "1/3 1/3"}, {"1/3 2/3", "0 0 0 0 1 0 0 0 0 0", 99, "1/3 2/3"}, {"1/3 2/3", "0 0 0 0 1 0 0 0 0 0", 100, "1/3 1/3"}, {"1/3 9/1", "1 0", 499, "1/3 9/1"},
	} {
		low, high, e := checks.Interval(parts(x.parts), draws(x.draws), x.out)
		if got := fmt.Sprintf("%d/%d %d/%d", low.Num, low.Den, high.Num, high.Den); got != x.want || e != api.OK {
			t.Errorf("Interval(%s, %s, %d): %s, error %d, want %s", x.parts, x.draws, x.out, got, e, x.want)
		}
	}
}

// P8.2: how often a score is the better one.
func TestBetter(t *testing.T) {
	for _, x := range []struct {
		a, b, draws string
		more, less  int
	}{
		{"1/2", "2/4", "0 00", 0, 0}, {"1/2", "1/3", "0 00", 2, 0}, {"1/3", "1/2", "0 00", 0, 2}, {"1/2 1/4", "1/3 1/3", "0 1 01 001 011", 2, 2}, {"5/0", "1/9", "0", 0, 1}, {"1/9", "5/0", "0", 1, 0}, {"0/0", "0/1", "0", 0, 0}, {"999999/1000000", "1000000/1000000", "0", 0, 1}, {"1/2 3/4", "3/4 1/2", "01 10 0 1 1", 2, 1},
	} {
		if more, less, e := checks.Better(parts(x.a), parts(x.b), draws(x.draws)); more != x.more || less != x.less || e != api.OK {
			t.Errorf("Better(%s, %s, %s): %d, %d, error %d", x.a, x.b, x.draws, more, less, e)
		}
	}
}

// scoreFault is something that makes arguments of Interval wrong.
type scoreFault struct {
	name  string
	e     api.Errno
	spoil func(parts *[]api.Fraction, draws *[][]int)
}

// scoreFaults are the errors of parts and draws, in the order of the chapter.
func scoreFaults() []scoreFault {
	list := []scoreFault{{"no parts", api.ErrArg, func(parts *[]api.Fraction, _ *[][]int) { *parts = nil }}}
	for _, f := range []api.Fraction{{Num: -1, Den: 1}, {Num: 1, Den: -1}, {Num: 1000001, Den: 1}, {Num: 1, Den: 1000001}, {Num: -1 << 63}, {Den: 1<<63 - 1}} {
		list = append(list, scoreFault{fmt.Sprint("the part ", f), api.ErrArg, func(parts *[]api.Fraction, _ *[][]int) {
			if len(*parts) > 0 {
				*parts = append(*parts, f)
			}
		}})
	}
	list = append(list,
		scoreFault{"too many parts", api.ErrLimit, func(parts *[]api.Fraction, _ *[][]int) {
			*parts = append(slices.Repeat((*parts)[:1], api.MaxSides), *parts...)
		}},
		scoreFault{"no draws", api.ErrArg, func(_ *[]api.Fraction, draws *[][]int) { *draws = nil }},
		scoreFault{"too many draws", api.ErrLimit, func(_ *[]api.Fraction, draws *[][]int) {
			*draws = append(slices.Repeat([][]int{{0}}, api.MaxDraws), *draws...)
		}},
	)
	for _, draw := range [][]int{nil, {}, make([]int, api.MaxSides+1), {0, -1}, {0, 1000}, {-1 << 63}, {1<<63 - 1}} {
		list = append(list, scoreFault{fmt.Sprintf("the draw %.20v", draw), api.ErrArg, func(_ *[]api.Fraction, draws *[][]int) { *draws = append(*draws, draw) }})
	}
	return list
}

// P8.2, R1: the errors of Interval and Better, each by itself, and two at once.
func TestIntervalErrors(t *testing.T) {
	zero := api.Fraction{}
	good := parts("1/2 3/0")
	list := scoreFaults()
	for i, first := range list {
		for _, later := range list[i:] {
			if i == 0 && later.name == "too many parts" {
				continue
			}
			p, d := slices.Clone(good), draws("0 1 01")
			later.spoil(&p, &d)
			first.spoil(&p, &d)
			for _, out := range []int{0, 500} {
				if low, high, e := checks.Interval(p, d, out); low != zero || high != zero || e != first.e {
					t.Errorf("Interval: %s, %s: %v, %v, error %d, want %d", first.name, later.name, low, high, e, first.e)
				}
			}
			if more, less, e := checks.Better(p, nil, d); more != 0 || less != 0 || e != first.e {
				t.Errorf("Better: %s, %s: %d, %d, error %d, want %d", first.name, later.name, more, less, e, first.e)
			}
			if first.name != "no draws" && strings.Contains(first.name, "part") {
				if more, less, e := checks.Better(append(good, good...), p, draws("0")); more != 0 || less != 0 || e != first.e {
					t.Errorf("Better: %s, %s: %d, %d, error %d, want %d", first.name, later.name, more, less, e, first.e)
				}
			}
		}
	}
	for _, out := range []int{-1, 500, 1000, -1 << 63, 1<<63 - 1} {
		if low, high, e := checks.Interval(good, draws("0"), out); low != zero || high != zero || e != api.ErrArg {
			t.Errorf("out %d: %v, %v, error %d", out, low, high, e)
		}
	}
	// What is just allowed.
	many, wide := slices.Repeat(parts("1000000/1000000"), api.MaxSides), slices.Repeat([]int{255}, api.MaxSides)
	if low, high, e := checks.Interval(many, slices.Repeat([][]int{wide}, api.MaxDraws), 499); low != fraction(1, 1) || high != low || e != api.OK {
		t.Error(low, high, e)
	}
	if _, _, e := checks.Interval(many, draws("0"), 0); e != api.OK {
		t.Error(e)
	}
	wide[7] = 256
	if _, _, e := checks.Interval(many, [][]int{{0}, wide}, 0); e != api.ErrArg {
		t.Error(e)
	}
	// A draw of a part that just one of both has, and other numbers of parts.
	for _, x := range []struct{ a, b, draws string }{{"1/2", "1/2 1/2", "1"}, {"1/2 1/2", "1/2", "1"}, {"1/2 1/2", "1/2", "0"}, {"1/2", "1/2 1/2", "0"}} {
		if more, less, e := checks.Better(parts(x.a), parts(x.b), draws(x.draws)); more != 0 || less != 0 || e != api.ErrArg {
			t.Errorf("Better(%s, %s, %s): %d, %d, error %d", x.a, x.b, x.draws, more, less, e)
		}
	}
	// An error of the first score comes ahead of one of the second.
	if _, _, e := checks.Better(good, slices.Repeat(good, 200), nil); e != api.ErrArg {
		t.Error(e)
	}
	if _, _, e := checks.Better(good, slices.Repeat(good, 200), draws("0")); e != api.ErrLimit {
		t.Error(e)
	}
	if _, _, e := checks.Better(good, nil, slices.Repeat(draws("0"), 1001)); e != api.ErrLimit {
		t.Error(e)
	}
}

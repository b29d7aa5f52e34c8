package checks_test

import (
	"fmt"
	"math"
	"math/big"
	"math/rand/v2"
	"slices"
	"strconv"
	"strings"
	"testing"

	"truchman/api"
	"truchman/checks"
	"truchman/docs"
)

// Tests of P8.1 to P8.5 and of P0.1, with many values that a seed makes. What package checks says is held against what the chapter says, worked out in the plainest way.

// maker makes trees of formulas that have no error.
type maker struct {
	r     *rand.Rand
	bound []string
	plain bool // no quantifiers
}

func (m *maker) formula(depth int) api.Term {
	kinds := 6
	if depth <= 2 {
		kinds = 2
	}
	switch m.r.IntN(kinds) {
	case 0:
		return m.test(depth)
	case 2:
		return not(m.formula(depth - 1))
	case 3, 4:
		kind := pick(m.r, api.TeAnd, api.TeOr)
		l := []api.Term{m.formula(depth - 1), m.formula(depth - 1)}
		return of(kind, "", append(l, some(m.r, 1, func() api.Term { return m.formula(depth - 1) })...)...)
	case 5:
		if !m.plain {
			return m.quantifier(depth)
		}
	}
	return m.comparison(depth)
}

func (m *maker) quantifier(depth int) api.Term {
	x := pick(m.r, "x", "y", "x", "allx", "abcdefghijkl")
	list := m.list()
	m.bound = append(m.bound, x)
	f := m.formula(depth - 1)
	m.bound = m.bound[:len(m.bound)-1]
	return of(pick(m.r, api.TeAll, api.TeAny), x, list, f)
}

func (m *maker) test(depth int) api.Term {
	if m.r.IntN(2) == 0 {
		return test("has", m.side(), str(pick(m.r, "a", "%d", "%p%b", "%b", "", "%h", "b%s", "%a%a", "%%", "\"", "é")))
	}
	return test(pick(m.r, "starts", "ends", "holds"), m.text(depth-1), m.text(depth-1))
}

func (m *maker) comparison(depth int) api.Term {
	operator := pick(m.r, "==", "!=", "<", "<=", ">", ">=", "in", "~", "==", "!=", "in")
	switch operator {
	case "in":
		return compare(m.text(depth-1), "in", m.list())
	case "~":
		return compare(m.list(), "~", m.list())
	case "==", "!=":
		switch m.r.IntN(3) {
		case 0:
			return compare(m.text(depth-1), operator, m.text(depth-1))
		case 1:
			return compare(m.list(), operator, m.list())
		}
	}
	return compare(m.number(depth-1), operator, m.number(depth-1))
}

func (m *maker) side() api.Term { return pick(m.r, source, target) }

func (m *maker) list() api.Term {
	return call(pick(m.r, "words", "words", "tags", "holes", "numbers"), m.side())
}

func (m *maker) text(depth int) api.Term {
	if len(m.bound) > 0 && m.r.IntN(2) == 0 {
		return name(pick(m.r, m.bound...))
	}
	switch {
	case depth > 3 && m.r.IntN(3) == 0:
		return call("lower", m.text(depth-1))
	case depth > 2 && m.r.IntN(3) == 0:
		return call(pick(m.r, "first", "last"), m.list())
	case depth > 1 && m.r.IntN(4) == 0:
		return call("text", m.side())
	}
	return str(pick(m.r, "", "a", "A", "b", ".", "\"", "\\", "a b", "{n}", "<b>", "é", "7", "in", " "))
}

func (m *maker) number(depth int) api.Term {
	if depth <= 3 || m.r.IntN(2) == 0 {
		return m.atom(depth)
	}
	switch m.r.IntN(3) {
	case 0:
		return add(m.number(depth-1), m.product(depth-1))
	case 1:
		return sub(m.number(depth-1), m.product(depth-1))
	}
	return m.product(depth)
}

func (m *maker) product(depth int) api.Term {
	if depth <= 3 || m.r.IntN(2) == 0 {
		return m.atom(depth)
	}
	return mul(m.product(depth-1), m.atom(depth-1))
}

func (m *maker) atom(depth int) api.Term {
	switch {
	case depth > 2 && m.r.IntN(3) == 0:
		return call("size", m.list())
	case depth > 2 && m.r.IntN(3) == 0:
		return call("count", m.list(), m.text(depth-1))
	case depth > 1 && m.r.IntN(3) == 0:
		return call("length", m.side())
	}
	return num(pick[int64](m.r, 0, 1, 1, 2, 3, 7, 999999, 1000000))
}

// anyFormula makes a tree and its written form.
func anyFormula(r *rand.Rand, plain bool) (api.Term, string) {
	for {
		m := maker{r: r, plain: plain}
		x := m.formula(2 + r.IntN(6))
		if text := canonical(x); len(text) <= api.MaxFormula {
			return x, text
		}
	}
}

// canonical is the written form of a tree.
func canonical(t api.Term) string {
	words := spelt(t, func() int { return 0 })
	out := ""
	for i, w := range words {
		if i > 0 && blankBetween(words[i-1], w) {
			out += " "
		}
		out += w
	}
	return out
}

// blankBetween reports whether the written form has a blank between two words.
func blankBetween(a, b string) bool {
	tool := takes[a][0] != ""
	return a != "(" && b != ")" && b != "," && b != ":" && !(tool && b == "(")
}

// spelt returns the words of a tree; extra tells how many parentheses that are not needed there are around a formula.
func spelt(t api.Term, extra func() int) []string {
	inner := func(sub api.Term, wrapped ...api.TermKind) []string {
		words := spelt(sub, extra)
		if slices.Contains(wrapped, sub.Kind) {
			words = slices.Concat([]string{"("}, words, []string{")"})
		}
		return words
	}
	joined := func(between string, wrapped ...api.TermKind) []string {
		var words []string
		for i, sub := range t.Subs {
			if i > 0 {
				words = append(words, between)
			}
			words = append(words, inner(sub, wrapped...)...)
		}
		return words
	}
	var out []string
	switch t.Kind {
	case api.TeNumber:
		return []string{fmt.Sprint(t.Num)}
	case api.TeText:
		s := `"`
		for _, r := range t.Text {
			if r == '"' || r == '\\' {
				s += `\`
			}
			s += string(r)
		}
		return []string{s + `"`}
	case api.TeName:
		return []string{t.Text}
	case api.TeSource:
		return []string{"source"}
	case api.TeTarget:
		return []string{"target"}
	case api.TeCall:
		return slices.Concat([]string{t.Text, "("}, joined(","), []string{")"})
	case api.TeAdd:
		return joined("+")
	case api.TeSub:
		return joined("-")
	case api.TeMul:
		return joined("*")
	case api.TeTest:
		out = slices.Concat([]string{t.Text, "("}, joined(","), []string{")"})
	case api.TeCompare:
		out = joined(t.Text)
	case api.TeNot:
		out = append([]string{"not"}, inner(t.Subs[0], api.TeAnd, api.TeOr)...)
	case api.TeAnd:
		out = joined("and", api.TeAnd, api.TeOr)
	case api.TeOr:
		out = joined("or", api.TeOr)
	case api.TeAll, api.TeAny:
		word := map[api.TermKind]string{api.TeAll: "all", api.TeAny: "any"}[t.Kind]
		out = slices.Concat([]string{word, t.Text, "in"}, inner(t.Subs[0]), []string{":"}, inner(t.Subs[1], api.TeAnd, api.TeOr))
	}
	for range extra() {
		out = slices.Concat([]string{"("}, out, []string{")"})
	}
	return out
}

// class is what a word is to the grammar of formulas: a letter for each kind.
func class(w string) string {
	switch {
	case w[0] == '"' || w[0] >= '0' && w[0] <= '9':
		return "ATOM"
	case w == "source" || w == "target":
		return "ATOM"
	case slices.Contains(fields("== != < <= > >= ~"), w):
		return "OP"
	case slices.Contains(fields("has starts ends holds"), w):
		return "TEST"
	case takes[w][0] != "":
		return "FUNCTION"
	case slices.Contains(fields("or and not all any in ( ) : , + - *"), w):
		return w
	}
	return "NAME"
}

// rules are the grammar of formulas, as the chapter writes it.
var rules = map[string][]string{
	"formula": {"conj ors"}, "ors": {"", "or conj ors"},
	"conj": {"unit ands"}, "ands": {"", "and unit ands"},
	"unit":    {"not unit", "all NAME in term : unit", "any NAME in term : unit", "( formula )", "TEST ( term terms )", "term OP term", "term in term"},
	"terms":   {"", ", term terms"},
	"term":    {"product sums"},
	"sums":    {"", "+ product sums", "- product sums"},
	"product": {"atom products"}, "products": {"", "* atom products"},
	"atom": {"ATOM", "NAME", "FUNCTION ( term terms )"},
}

// grown returns all stacks of symbols that come of one when each begins with a word.
func grown(stack string, out map[string]bool) {
	first, rest, _ := strings.Cut(stack, " ")
	if _, ok := rules[first]; !ok {
		out[stack] = true
		return
	}
	for _, right := range rules[first] {
		grown(strings.TrimSpace(right+" "+rest), out)
	}
}

// wrongWord returns the number of the first word with which no formula goes on: that behind the last one, if it ends too early; -1 if there is none. It follows all ways of the grammar at once.
func wrongWord(words []string) int {
	stacks := map[string]bool{}
	grown("formula", stacks)
	for i, w := range words {
		next := map[string]bool{}
		for s := range stacks {
			if first, rest, _ := strings.Cut(s, " "); first == class(w) {
				grown(rest, next)
			}
		}
		if len(next) == 0 {
			return i
		}
		stacks = next
	}
	if !stacks[""] {
		return len(words)
	}
	return -1
}

// laid writes words with blanks where they are needed, and some others. It returns where each one stands, and the end.
func laid(r *rand.Rand, words []string) (string, []int) {
	isWord := func(b byte) bool { return b >= 'a' && b <= 'z' }
	isDigit := func(b byte) bool { return b >= '0' && b <= '9' }
	out, at := strings.Repeat(" ", r.IntN(2)), []int{}
	for i, w := range words {
		if i > 0 {
			last := out[len(out)-1]
			joins := isWord(last) && isWord(w[0]) || isDigit(last) && isDigit(w[0]) || strings.IndexByte("<>=!", last) >= 0 && w[0] == '='
			if joins || r.IntN(3) == 0 {
				out += strings.Repeat(" ", 1+r.IntN(2))
			}
		}
		at = append(at, len(out))
		out += w
	}
	out += strings.Repeat(" ", r.IntN(2))
	return out, append(at, len(out))
}

// P8.1, P8.3: trees, their written forms, and other texts of them.
func TestFormsOfTrees(t *testing.T) {
	r := dice()
	for range 20 * rounds {
		x, text := anyFormula(r, false)
		if got, e := checks.Print(x); got != text || e != api.OK {
			t.Fatalf("Print(%v): %q, error %d, want %q", x, got, e, text)
		}
		if got := parsed(t, text); !same(got, x) {
			t.Fatalf("Parse(%q): %v, want %v", text, got, x)
		}
		other, _ := laid(r, spelt(x, func() int { return max(0, r.IntN(5)-2) }))
		if len(other) > api.MaxFormula {
			continue
		}
		if got := parsed(t, other); !same(got, x) || !checks.Same(got, x) {
			t.Fatalf("Parse(%q): %v, want %v", other, got, x)
		}
		if got, e := checks.Print(parsed(t, other)); got != text || e != api.OK {
			t.Fatalf("Print of %q: %q, error %d", other, got, e)
		}
	}
}

// vocabulary is the words that formulas are made of.
var vocabulary = fields(`or and not all any in ( ) : , + - * == < ~ has starts words count lower source target x y 1 "a" 7`)

// P8.1: the places of words that are wrong.
func TestPlacesOfWords(t *testing.T) {
	r := dice()
	seen := map[string]int{}
	for range 20 * rounds {
		x, _ := anyFormula(r, false)
		words := spelt(x, func() int { return r.IntN(10) / 9 })
		for range 1 + r.IntN(2) {
			i := r.IntN(len(words) + 1)
			switch r.IntN(4) {
			case 0:
				words = words[:i]
			case 1:
				words = slices.Insert(words, i, pick(r, vocabulary...))
			case 2:
				words = slices.Delete(words, max(0, i-1), i)
			case 3:
				if i < len(words) {
					words[i] = pick(r, vocabulary...)
				}
			}
		}
		text, at := laid(r, words)
		if len(text) > api.MaxFormula {
			continue
		}
		wrong := wrongWord(words)
		_, place, e := checks.Parse(text)
		switch {
		case wrong < 0 && (e == api.ErrForm || place != 0), wrong >= 0 && (e != api.ErrForm || place != at[wrong]):
			t.Fatalf("Parse(%q): place %d, error %d, the wrong word is %d", text, place, e, wrong)
		case wrong == len(words):
			seen["the end"]++
		case wrong >= 0:
			seen["a word"]++
		default:
			seen[fmt.Sprint("error ", e)]++
		}
	}
	for _, x := range []string{"the end", "a word", "error 0", "error 1", "error 5"} {
		if seen[x] < rounds/50 {
			t.Errorf("too little was seen: %v", seen)
		}
	}
}

// P8.1: Print accepts just the trees that have a written form which is parsed as them.
func TestSpoiltTrees(t *testing.T) {
	r := dice()
	good := 0
	for range 20 * rounds {
		x, _ := anyFormula(r, false)
		x = spoilt(r, x)
		text, e := checks.Print(x)
		if e == api.ErrArg && text == "" {
			continue
		}
		good++
		if again, _, got := checks.Parse(text); e != api.OK || got != api.OK || !same(again, x) || canonical(x) != text {
			t.Fatalf("Print(%v): %q, error %d", x, text, e)
		}
	}
	if good < rounds || good > 18*rounds {
		t.Errorf("%d trees are valid", good)
	}
}

// spoilt changes something in a tree, at any depth.
func spoilt(r *rand.Rand, t api.Term) api.Term {
	t.Subs = slices.Clone(t.Subs)
	if len(t.Subs) > 0 && r.IntN(4) > 0 {
		i := r.IntN(len(t.Subs))
		t.Subs[i] = spoilt(r, t.Subs[i])
		return t
	}
	switch r.IntN(5) {
	case 0:
		t.Kind = api.TermKind(r.IntN(19))
	case 1:
		t.Text = pick(r, "", "x", "y", "==", "<", "words", "text", "lower", "has", "holds", "a\n", "\"", "x in words(source): any x")
	case 2:
		t.Num = pick[int64](r, -1, 0, 1, 1000000, 1000001, math.MinInt64)
	case 3:
		if len(t.Subs) > 0 {
			t.Subs = t.Subs[:len(t.Subs)-1]
		}
	case 4:
		t.Subs = append(t.Subs, pick(r, num(1), source, tree(), call("words", source), str("a")))
	}
	return t
}

// aside makes pieces with few words.
func aside(r *rand.Rand) []api.Piece {
	out := ""
	for range r.IntN(5) {
		out += pick(r, "a", "b", "A", "7", "12", ".", " ", " ", "<i/>", "{n}", "<b>a</b>", "\\{", "é", "\"", "%", "a7")
	}
	return read(out)
}

func anyPair(r *rand.Rand) api.Pair { return api.Pair{Source: aside(r), Target: aside(r)} }

// judge evaluates trees for a pair, with names bound.
type judge struct {
	p      api.Pair
	bounds []api.Bound
}

func (j judge) with(name, value string) judge {
	return judge{j.p, slices.Concat(j.bounds, []api.Bound{{Name: name, Value: value}})}
}

func (j judge) side(t api.Term) []api.Piece {
	if t.Kind == api.TeSource {
		return j.p.Source
	}
	return j.p.Target
}

func (j judge) list(t api.Term) []string {
	l := j.side(t.Subs[0])
	tags, _ := docs.Tags(l)
	words, _ := docs.Words(l)
	words = docs.Bare(words)
	keep := func(good func(string) bool) []string {
		return slices.DeleteFunc(words, func(w string) bool { return !good(w) })
	}
	switch t.Text {
	case "tags":
		return tags
	case "holes":
		return keep(func(w string) bool { return len(w) > 2 && w[0] == '{' && w[len(w)-1] == '}' })
	case "numbers":
		return keep(func(w string) bool { return strings.Trim(w, "0123456789") == "" })
	}
	return words
}

func (j judge) text(t api.Term) string {
	switch t.Kind {
	case api.TeText:
		return t.Text
	case api.TeName:
		for i := len(j.bounds) - 1; i >= 0; i-- {
			if j.bounds[i].Name == t.Text {
				return j.bounds[i].Value
			}
		}
	}
	switch t.Text {
	case "text":
		return docs.Plain(j.side(t.Subs[0]))
	case "lower":
		s := j.text(t.Subs[0])
		for i := range 26 {
			s = strings.ReplaceAll(s, string(rune('A'+i)), string(rune('a'+i)))
		}
		return s
	}
	l := j.list(t.Subs[0])
	if len(l) == 0 {
		return ""
	}
	if t.Text == "first" {
		return l[0]
	}
	return l[len(l)-1]
}

func (j judge) number(t api.Term) *big.Int {
	small := func(n int) *big.Int { return big.NewInt(int64(n)) }
	switch t.Kind {
	case api.TeNumber:
		return big.NewInt(t.Num)
	case api.TeCall:
		switch t.Text {
		case "size":
			return small(len(j.list(t.Subs[0])))
		case "length":
			n, _ := docs.Units(j.side(t.Subs[0]))
			return small(n)
		}
		n := 0
		for _, x := range j.list(t.Subs[0]) {
			if x == j.text(t.Subs[1]) {
				n++
			}
		}
		return small(n)
	}
	a, b, n := j.number(t.Subs[0]), j.number(t.Subs[1]), new(big.Int)
	switch t.Kind {
	case api.TeAdd:
		n.Add(a, b)
	case api.TeSub:
		n.Sub(a, b)
	default:
		n.Mul(a, b)
	}
	most := big.NewInt(api.MaxNumber)
	if n.CmpAbs(most) > 0 {
		return most.Mul(most, big.NewInt(int64(n.Sign())))
	}
	return n
}

// kind tells the type of a term.
func kind(t api.Term) string {
	switch t.Kind {
	case api.TeText, api.TeName:
		return "string"
	case api.TeCall:
		return takes[t.Text][1]
	}
	return "number"
}

func (j judge) compared(t api.Term) bool {
	a, b := t.Subs[0], t.Subs[1]
	switch t.Text {
	case "in":
		return slices.Contains(j.list(b), j.text(a))
	case "~":
		x, y := slices.Clone(j.list(a)), slices.Clone(j.list(b))
		slices.Sort(x)
		slices.Sort(y)
		return strings.Join(x, "\n") == strings.Join(y, "\n")
	}
	if kind(a) == "string" {
		return (j.text(a) == j.text(b)) == (t.Text == "==")
	}
	if kind(a) == "list" {
		return slices.Equal(j.list(a), j.list(b)) == (t.Text == "==")
	}
	order := j.number(a).Cmp(j.number(b))
	return slices.Contains(map[string][]int{"==": {0}, "!=": {-1, 1}, "<": {-1}, "<=": {-1, 0}, ">": {1}, ">=": {0, 1}}[t.Text], order)
}

func (j judge) tested(t api.Term) bool {
	if t.Text == "has" {
		l := j.side(t.Subs[0])
		n, _ := docs.Units(l)
		for at := range n + 1 {
			if ok, _ := docs.Fits(api.Break{After: t.Subs[1].Text}, l, at); ok {
				return true
			}
		}
		return false
	}
	a, b := j.text(t.Subs[0]), j.text(t.Subs[1])
	switch t.Text {
	case "starts":
		return len(a) >= len(b) && a[:len(b)] == b
	case "ends":
		return len(a) >= len(b) && a[len(a)-len(b):] == b
	}
	return strings.Index(a, b) >= 0
}

// judged returns the truth of a tree, and the reasons of it.
func (j judge) judged(t api.Term) (bool, []api.Reason) {
	itself := func(is bool) (bool, []api.Reason) {
		return is, []api.Reason{{Formula: canonical(t), Bounds: j.bounds, True: is}}
	}
	deciding := t.Kind == api.TeOr || t.Kind == api.TeAny
	var every []api.Reason
	switch t.Kind {
	case api.TeCompare:
		return itself(j.compared(t))
	case api.TeTest:
		return itself(j.tested(t))
	case api.TeNot:
		is, l := j.judged(t.Subs[0])
		return !is, l
	case api.TeAnd, api.TeOr:
		for _, s := range t.Subs {
			is, l := j.judged(s)
			if is == deciding {
				return is, l
			}
			every = append(every, l...)
		}
		return !deciding, every
	}
	elements := j.list(t.Subs[0])
	if len(elements) == 0 {
		return itself(!deciding)
	}
	for _, x := range elements {
		is, l := j.with(t.Text, x).judged(t.Subs[1])
		if is == deciding {
			return is, l
		}
		every = append(every, l...)
	}
	return !deciding, every
}

// P8.1, P8.4: truth and reasons of formulas, and findings.
func TestReasonsOfFormulas(t *testing.T) {
	r := dice()
	seen := map[string]int{}
	for range 20 * rounds {
		x, text := anyFormula(r, false)
		p := anyPair(r)
		want, reasons := judge{p: p}.judged(x)
		reasons = reasons[:min(len(reasons), api.MaxPieces)]
		if got := eval(t, text, p); got != want {
			t.Fatalf("Eval(%q, %v): %v", text, p, got)
		}
		is, l, e := checks.Explain(text, p)
		if e != api.OK || is != want || !sameReasons(l, reasons) {
			t.Fatalf("Explain(%q, %v): %v, %s, error %d, want %v, %s", text, p, is, shown(l), e, want, shown(reasons))
		}
		for _, reason := range l {
			holdsAsItSays(t, p, reason)
			seen[fmt.Sprint(min(2, len(reason.Bounds)), " names")]++
			if strings.HasPrefix(reason.Formula, "a") {
				seen["no elements"]++
			}
		}
		if len(l) == 0 {
			t.Fatalf("Explain(%q, %v): no reason", text, p)
		}
		seen[fmt.Sprint(is, " ", min(3, len(l)))]++
	}
	for _, x := range []string{"0 names", "1 names", "2 names", "no elements", "true 1", "true 2", "true 3", "false 1", "false 2", "false 3"} {
		if seen[x] < rounds/10 {
			t.Errorf("too little was seen: %v", seen)
		}
	}
}

// holdsAsItSays evaluates the formula of a reason with its names bound as it says. It is read inside of quantifiers, so that these names are bound.
func holdsAsItSays(t *testing.T, p api.Pair, reason api.Reason) {
	t.Helper()
	around := ""
	for _, b := range reason.Bounds {
		around += "all " + b.Name + " in words(source): "
	}
	x, _, e := checks.Parse(around + reason.Formula)
	if e != api.OK {
		if len(around+reason.Formula) > api.MaxFormula {
			return
		}
		t.Fatalf("%s: error %d", around+reason.Formula, e)
	}
	for range reason.Bounds {
		x = x.Subs[1]
	}
	if is, _ := (judge{p, reason.Bounds}).judged(x); is != reason.True {
		t.Fatalf("%v: %v", reason, is)
	}
}

// atoms collects the written forms of the comparisons and tests of a tree.
func atoms(t api.Term, out map[string]bool) {
	if t.Kind == api.TeCompare || t.Kind == api.TeTest {
		out[canonical(t)] = false
		return
	}
	for _, s := range t.Subs {
		atoms(s, out)
	}
}

// assumed is the truth of a tree if its comparisons and tests are as it is assumed.
func assumed(t api.Term, is map[string]bool) bool {
	switch t.Kind {
	case api.TeNot:
		return !assumed(t.Subs[0], is)
	case api.TeAnd, api.TeOr:
		for _, s := range t.Subs {
			if assumed(s, is) == (t.Kind == api.TeOr) {
				return t.Kind == api.TeOr
			}
		}
		return t.Kind == api.TeAnd
	}
	return is[canonical(t)]
}

// P8.4: the reasons of a formula without quantifiers decide.
func TestReasonsDecide(t *testing.T) {
	r := dice()
	some := 0
	for range 10 * rounds {
		x, text := anyFormula(r, true)
		truth, l, e := checks.Explain(text, anyPair(r))
		if e != api.OK {
			t.Fatal(text, e)
		}
		is := map[string]bool{}
		atoms(x, is)
		var free []string
		for s := range is {
			free = append(free, s)
		}
		for _, reason := range l {
			is[reason.Formula] = reason.True
			free = slices.DeleteFunc(free, func(s string) bool { return s == reason.Formula })
		}
		if len(free) > 10 {
			continue
		}
		if len(free) > 0 {
			some++
		}
		for n := range 1 << len(free) {
			for i, s := range free {
				is[s] = n>>i&1 == 1
			}
			if assumed(x, is) != truth {
				t.Fatalf("%s: %s do not decide", text, shown(l))
			}
		}
	}
	if some < rounds {
		t.Errorf("%d formulas had more than their reasons", some)
	}
}

// P8.1, P8.4: reports are what Explain says of the pairs, and each finding has a reason.
func TestReportsOfPairs(t *testing.T) {
	r := dice()
	findings := 0
	for range 2 * rounds {
		var l []api.Rating
		for i := range r.IntN(5) {
			_, text := anyFormula(r, false)
			l = append(l, api.Rating{Name: fmt.Sprint("n", i), Formula: text, Weight: r.IntN(1001)})
		}
		pairs := some(r, 4, func() api.Pair { return anyPair(r) })
		var want []api.Finding
		sum := 0
		for i, p := range pairs {
			for j, x := range l {
				if is, reasons, _ := checks.Explain(x.Formula, p); !is {
					want = append(want, api.Finding{Pair: i, Check: j, Reasons: reasons})
					sum += x.Weight
				}
			}
		}
		got, e := checks.Report(l, pairs)
		if e != api.OK || !slices.EqualFunc(got, want, func(x, y api.Finding) bool {
			return x.Pair == y.Pair && x.Check == y.Check && sameReasons(x.Reasons, y.Reasons) && len(x.Reasons) > 0
		}) {
			t.Fatalf("Report(%v, %v): %v, error %d, want %v", l, pairs, got, e, want)
		}
		if n, e := checks.Weigh(l, got); n != sum || e != api.OK {
			t.Fatalf("Weigh: %d, error %d, want %d", n, e, sum)
		}
		findings += len(got)
	}
	if findings < rounds {
		t.Errorf("%d findings", findings)
	}
}

func anyWords(r *rand.Rand, n int) []string {
	return some(r, n, func() string { return pick(r, "a", "b", "c", "") })
}

// P8.2, P8.5: matches of grams.
func TestMatchesOfLists(t *testing.T) {
	r := dice()
	for range 20 * rounds {
		a, b, n := anyWords(r, 9), anyWords(r, 9), 1+r.IntN(4)
		grams := func(l []string) []string {
			var out []string
			for i := 0; i+n <= len(l); i++ {
				out = append(out, fmt.Sprintf("%q", l[i:i+n]))
			}
			return out
		}
		x, y := grams(a), grams(b)
		want := 0
		for _, g := range slices.Compact(slices.Sorted(slices.Values(x))) {
			in := func(l []string) int { return strings.Count(strings.Join(l, ""), g) }
			want += min(in(x), in(y))
		}
		m, first, second, e := checks.Matches(a, b, n)
		if m != want || first != len(x) || second != len(y) || e != api.OK {
			t.Fatalf("Matches(%q, %q, %d): %d, %d, %d, error %d, want %d", a, b, n, m, first, second, e, want)
		}
		if back, f, s, _ := checks.Matches(b, a, n); back != m || f != second || s != first {
			t.Fatalf("Matches(%q, %q, %d): %d, %d, %d, and %d, %d, %d the other way round", a, b, n, m, first, second, back, f, s)
		}
		if all, f, s, _ := checks.Matches(a, slices.Clone(a), n); all != f || all != s {
			t.Fatalf("Matches(%q, itself, %d): %d, %d, %d", a, n, all, f, s)
		}
	}
}

// allRows returns all rows of steps from one list to another one, in order.
func allRows(a, b []string) []string {
	if len(a) == 0 && len(b) == 0 {
		return []string{""}
	}
	var out []string
	add := func(step string, rest []string) {
		for _, row := range rest {
			out = append(out, step+row)
		}
	}
	if len(a) > 0 && len(b) > 0 {
		if a[0] == b[0] {
			add("0", allRows(a[1:], b[1:]))
		}
		add("1", allRows(a[1:], b[1:]))
	}
	if len(a) > 0 {
		add("2", allRows(a[1:], b))
	}
	if len(b) > 0 {
		add("3", allRows(a, b[1:]))
	}
	return out
}

func costOf(row string) int { return len(row) - strings.Count(row, "0") }

// made makes a list of another one by steps.
func made(t *testing.T, a, b []string, l []api.EditKind) []string {
	t.Helper()
	var out []string
	for _, step := range l {
		if step == api.EdKeep && a[0] != b[len(out)] {
			t.Fatalf("%q, %q: %v", a, b, l)
		}
		if step != api.EdDrop {
			out = append(out, b[len(out)])
		}
		if step != api.EdPut {
			a = a[1:]
		}
	}
	if len(a) > 0 {
		t.Fatalf("%v leaves %q", l, a)
	}
	return out
}

// P8.2, P8.5: rows of steps.
func TestEditsOfLists(t *testing.T) {
	r := dice()
	several := 0
	for range 3 * rounds {
		a, b, c := anyWords(r, 5), anyWords(r, 5), anyWords(r, 6)
		rows := allRows(a, b)
		slices.SortFunc(rows, func(x, y string) int {
			if n := costOf(x) - costOf(y); n != 0 {
				return n
			}
			return strings.Compare(x, y)
		})
		l, n, e := checks.Edits(a, b)
		got := ""
		for _, step := range l {
			got += strconv.Itoa(int(step))
		}
		if got != rows[0] || n != costOf(rows[0]) || e != api.OK {
			t.Fatalf("Edits(%q, %q): %s, %d, error %d, want %s", a, b, got, n, e, rows[0])
		}
		if len(rows) > 1 && costOf(rows[1]) == n {
			several++
		}
		if out := made(t, a, b, l); !slices.Equal(out, b) {
			t.Fatalf("Edits(%q, %q): %v makes %q", a, b, l, out)
		}
		_, back, _ := checks.Edits(b, a)
		_, there, _ := checks.Edits(a, c)
		_, on, _ := checks.Edits(c, b)
		if back != n || (n == 0) != slices.Equal(a, b) || n > there+on {
			t.Fatalf("Edits(%q, %q): %d, %d back, by way of %q %d and %d", a, b, n, back, c, there, on)
		}
	}
	if several < rounds {
		t.Errorf("just %d lists have several rows", several)
	}
}

// sameAs reports whether a fraction in lowest terms is a quotient.
func sameAs(f api.Fraction, num, den int64) bool {
	want := big.NewRat(0, 1)
	if den != 0 {
		want = big.NewRat(num, den)
	}
	return f.Den == want.Denom().Int64() && f.Num == want.Num().Int64()
}

// P8.2: quotients of sums over pairs of lists.
func TestSumsOfLists(t *testing.T) {
	r := dice()
	for range 5 * rounds {
		var a, b [][]string
		n := 1 + r.IntN(4)
		var matches, grams, edits, words int64
		for range r.IntN(5) {
			x, y := anyWords(r, 6), anyWords(r, 6)
			m, first, _, _ := checks.Matches(x, y, n)
			_, k, _ := checks.Edits(x, y)
			a, b = append(a, x), append(b, y)
			matches, grams, edits, words = matches+int64(m), grams+int64(first), edits+int64(k), words+int64(len(y))
		}
		if got, e := checks.Precision(a, b, n); e != api.OK || !sameAs(got, matches, grams) {
			t.Fatalf("Precision(%q, %q, %d): %v, error %d, want %d/%d", a, b, n, got, e, matches, grams)
		}
		if got, e := checks.Rate(a, b); e != api.OK || !sameAs(got, edits, words) {
			t.Fatalf("Rate(%q, %q): %v, error %d, want %d/%d", a, b, got, e, edits, words)
		}
	}
}

// P8.2, P8.5: texts compared by their units.
func TestUnitFOfTexts(t *testing.T) {
	r := dice()
	text := func(n int) string {
		return strings.Join(some(r, n, func() string { return pick(r, "a", "b", "c", "é", " ", "日") }), "")
	}
	for i := range 5 * rounds {
		most := pick(r, 3, 8, 200)
		a, b, n, beta := text(most), text(most), 1+i%3, 1+r.IntN(3)
		p, q := new(big.Rat), new(big.Rat)
		for k := 1; k <= n; k++ {
			m, first, second, _ := checks.Matches(strings.Split(a, ""), strings.Split(b, ""), k)
			if first > 0 {
				p.Add(p, big.NewRat(int64(m), int64(first*n)))
			}
			if second > 0 {
				q.Add(q, big.NewRat(int64(m), int64(second*n)))
			}
		}
		weight := big.NewRat(int64(beta*beta), 1)
		below := new(big.Rat).Add(new(big.Rat).Mul(weight, p), q)
		want := big.NewRat(0, 1)
		if below.Sign() > 0 {
			want.Mul(p, q).Mul(want, weight.Add(weight, big.NewRat(1, 1))).Quo(want, below)
		}
		got, e := checks.UnitF(a, b, n, beta)
		if e != api.OK || got.Num != want.Num().Int64() || got.Den != want.Denom().Int64() {
			t.Fatalf("UnitF(%q, %q, %d, %d): %v, error %d, want %v", a, b, n, beta, got, e, want)
		}
	}
}

// P8.2: draws, with numbers without bounds.
func TestDrawsOfSeeds(t *testing.T) {
	r := dice()
	number := func(hex string) *big.Int { n, _ := new(big.Int).SetString(hex, 16); return n }
	whole := new(big.Int).Lsh(big.NewInt(1), 64)
	for range rounds / 3 {
		seed, n, many := pick[uint64](r, 0, 1, math.MaxUint64, r.Uint64()), 1+r.IntN(256), r.IntN(5)
		got, e := checks.Draws(seed, n, many)
		if e != api.OK || len(got) != many {
			t.Fatalf("Draws(%d, %d, %d): %v, error %d", seed, n, many, got, e)
		}
		s := new(big.Int).SetUint64(seed)
		for _, draw := range got {
			if len(draw) != n {
				t.Fatalf("Draws(%d, %d, %d): %v", seed, n, many, got)
			}
			for _, x := range draw {
				s.Add(s, number("9E3779B97F4A7C15")).Mod(s, whole)
				z := new(big.Int).Set(s)
				z.Xor(z, new(big.Int).Rsh(z, 30)).Mul(z, number("BF58476D1CE4E5B9")).Mod(z, whole)
				z.Xor(z, new(big.Int).Rsh(z, 27)).Mul(z, number("94D049BB133111EB")).Mod(z, whole)
				z.Xor(z, new(big.Int).Rsh(z, 31))
				if want := z.Mod(z, big.NewInt(int64(n))).Int64(); int64(x) != want {
					t.Fatalf("Draws(%d, %d, %d): %v", seed, n, many, got)
				}
			}
		}
	}
}

func anyParts(r *rand.Rand, n int) []api.Fraction {
	var out []api.Fraction
	for range n {
		out = append(out, fraction(pick(r, 0, 1, 2, 3, 1000000, r.Int64N(1000001)), pick(r, 0, 1, 2, 4, 1000000, r.Int64N(1000001))))
	}
	return out
}

func scoreOf(parts []api.Fraction, draw []int) *big.Rat {
	num, den := int64(0), int64(0)
	for _, i := range draw {
		num, den = num+parts[i].Num, den+parts[i].Den
	}
	if den == 0 {
		return new(big.Rat)
	}
	return big.NewRat(num, den)
}

func ratOf(f api.Fraction) *big.Rat { return big.NewRat(f.Num, f.Den) }

// P8.2, P8.5: intervals, and which score is better.
func TestIntervalsOfParts(t *testing.T) {
	r := dice()
	for range 2 * rounds {
		n := pick(r, 1, 2, 5, 256)
		a, b := anyParts(r, n), anyParts(r, n)
		draws, _ := checks.Draws(r.Uint64(), n, pick(r, 1, 2, 3, 10, 100))
		if r.IntN(2) == 0 {
			for i := range draws {
				draws[i] = draws[i][:1+r.IntN(n)]
			}
		}
		var scores []*big.Rat
		more, less := 0, 0
		for _, draw := range draws {
			x := scoreOf(a, draw)
			scores = append(scores, x)
			switch x.Cmp(scoreOf(b, draw)) {
			case 1:
				more++
			case -1:
				less++
			}
		}
		slices.SortFunc(scores, func(x, y *big.Rat) int { return x.Cmp(y) })
		if m, l, e := checks.Better(a, b, draws); m != more || l != less || e != api.OK {
			t.Fatalf("Better(%v, %v, %v): %d, %d, error %d, want %d, %d", a, b, draws, m, l, e, more, less)
		}
		lastLow, lastHigh := new(big.Rat), big.NewRat(math.MaxInt64, 1)
		for out := 0; out < 500; out += 1 + r.IntN(200) {
			k := len(draws) * out / 1000
			low, high, e := checks.Interval(a, draws, out)
			if e != api.OK || !sameAs(low, scores[k].Num().Int64(), scores[k].Denom().Int64()) || ratOf(high).Cmp(scores[len(scores)-1-k]) != 0 || high.Den != scores[len(scores)-1-k].Denom().Int64() {
				t.Fatalf("Interval(%v, %v, %d): %v, %v, error %d", a, draws, out, low, high, e)
			}
			if ratOf(low).Cmp(lastLow) < 0 || ratOf(high).Cmp(lastHigh) > 0 || ratOf(low).Cmp(ratOf(high)) > 0 {
				t.Fatalf("Interval(%v, %v, %d): %v, %v is wider than that for less", a, draws, out, low, high)
			}
			lastLow, lastHigh = ratOf(low), ratOf(high)
		}
		once := make([]int, n)
		for i := range once {
			once[i] = i
		}
		low, high, e := checks.Interval(a, slices.Repeat([][]int{once}, 1+r.IntN(5)), r.IntN(500))
		if e != api.OK || low != high || ratOf(low).Cmp(scoreOf(a, once)) != 0 {
			t.Fatalf("Interval(%v, all parts): %v, %v, error %d", a, low, high, e)
		}
	}
}

// R4, R10: equal calls have equal results, which share no memory with arguments or one another, and arguments stay as they were.
func TestMemory(t *testing.T) {
	r := dice()
	for range rounds {
		x, text := anyFormula(r, false)
		p, q := anyPair(r), anyPair(r)
		before := fmt.Sprint(x, p, q)
		l := []api.Rating{{Name: "a", Formula: text}, {Name: "b", Formula: "1 == 2"}, {Name: "c", Formula: text}}
		tree := parsed(t, text)
		_, reasons, _ := checks.Explain(text, p)
		found, _ := checks.Report(l, []api.Pair{p, q, p})
		was := fmt.Sprint(reasons, found)
		again, _ := checks.Report(l, []api.Pair{p, q, p})
		spoil(&tree)
		for _, f := range again {
			for i := range f.Reasons {
				for j := range f.Reasons[i].Bounds {
					f.Reasons[i].Bounds[j] = api.Bound{Name: "?"}
				}
				_ = append(f.Reasons[i].Bounds, api.Bound{Name: "!"})
				f.Reasons[i] = api.Reason{Formula: "?"}
			}
		}
		for _, f := range found {
			_ = append(f.Reasons, api.Reason{Formula: "!"})
			for _, reason := range f.Reasons {
				_ = append(reason.Bounds, api.Bound{Name: "!"})
			}
		}
		if got := fmt.Sprint(reasons, found); got != was || fmt.Sprint(x, p, q) != before || !same(parsed(t, text), x) {
			t.Fatalf("%s: %s, was %s", text, got, was)
		}
		more, _ := checks.Report(l, []api.Pair{p, q, p})
		if fmt.Sprint(reasons, more) != was {
			t.Fatalf("%s: another report", text)
		}
	}
	a, b := fields("a b c a b"), fields("b a b c")
	checks.Matches(a, b, 2)
	steps, _, _ := checks.Edits(a, b)
	first := fmt.Sprint(steps)
	steps[0] = 9
	if again, _, _ := checks.Edits(a, b); fmt.Sprint(again) != first || strings.Join(a, "")+strings.Join(b, "") != "abcabbabc" {
		t.Error("lists changed")
	}
	draws, _ := checks.Draws(1, 3, 9)
	was := fmt.Sprint(draws)
	list := parts("3/4 1/2 5/6")
	checks.Interval(list, draws, 3)
	if fmt.Sprint(draws, list) != was+" [{3 4} {1 2} {5 6}]" {
		t.Error("draws or parts changed")
	}
	_ = append(draws[0], 77)
	draws[1][0] = 88
	if draws[1][0] != 88 || draws[2][0] == 77 || draws[1][1] == 77 {
		t.Error("draws share memory")
	}
}

// spoil changes all of a tree.
func spoil(t *api.Term) {
	for i := range t.Subs {
		spoil(&t.Subs[i])
	}
	*t = api.Term{Kind: 99}
}

// P0.1, R2, R8: any arguments.
func TestAnyArguments(t *testing.T) {
	r := dice()
	codes := map[api.Errno]int{}
	check := func(name string, e api.Errno, zero bool) {
		t.Helper()
		codes[e]++
		if e != api.OK && !zero {
			t.Fatalf("%s: error %d, but a result", name, e)
		}
	}
	number := func() int { return pick(r, math.MinInt, -1, 0, 0, 1, 1, 2, 3, 255, 500, 1001, math.MaxInt) }
	text := func() string {
		words := some(r, 8, func() string { return pick(r, append(vocabulary, "\"", "\\", "é", "\xff", "=", "\t", "00", "%")...) })
		return pick(r, strings.Join(words, " "), strings.Join(words, ""), "", one, "1 == source", "x == \"\"", strings.Repeat(" ", 1001))
	}
	piece := func() api.Piece {
		return api.Piece{Kind: api.PieceKind(r.IntN(7)), Text: pick(r, "a", "b", "7 a", "", "\xff", "A"), Carried: r.IntN(9) == 0}
	}
	pair := func() api.Pair { return api.Pair{Source: some(r, 2, piece), Target: some(r, 2, piece)} }
	words := func() []string { return some(r, pick(r, 2, 4, 520), func() string { return pick(r, "a", "", "\xff") }) }
	sides := func() [][]string { return some(r, pick(r, 1, 2, 3, 260), words) }
	part := func() api.Fraction {
		return fraction(pick(r, 0, 1, 1, int64(number())), pick(r, 0, 1, 1, int64(number())))
	}
	for range 5 * rounds {
		s := text()
		x, at, e := checks.Parse(s)
		check("Parse", e, same(x, api.Term{}))
		if e != api.ErrForm && at != 0 || at < 0 || at > len(s) {
			t.Fatalf("Parse(%q): place %d, error %d", s, at, e)
		}
		for range r.IntN(3) {
			x = spoilt(r, x)
		}
		out, e := checks.Print(x)
		check("Print", e, out == "")
		checks.Same(x, spoilt(r, x))
		p := pair()
		is, e := checks.Eval(s, p)
		check("Eval", e, !is)
		is, reasons, e := checks.Explain(s, p)
		check("Explain", e, !is && reasons == nil)
		l := some(r, pick(r, 3, 3, 70), func() api.Rating {
			return api.Rating{Name: pick(r, "a", "b", "c", "", "\n"), Formula: pick(r, one, "1 == 2", text()), Weight: pick(r, 1, 2, number())}
		})
		found, e := checks.Report(l, some(r, pick(r, 3, 3, 300), pair))
		check("Report", e, found == nil)
		n, e := checks.Weigh(l, some(r, 3, func() api.Finding { return api.Finding{Check: number()} }))
		check("Weigh", e, n == 0)
		m, first, second, e := checks.Matches(words(), words(), number())
		check("Matches", e, m == 0 && first == 0 && second == 0)
		f, e := checks.Precision(sides(), sides(), number())
		check("Precision", e, f == api.Fraction{})
		if i := r.IntN(10); i == 0 {
			edits, n, e := checks.Edits(words(), words())
			check("Edits", e, edits == nil && n == 0)
			f, e = checks.Rate(some(r, 2, words), some(r, 2, words))
			check("Rate", e, f == api.Fraction{})
		}
		f, e = checks.UnitF(pick(r, "", "ab", "\xff", strings.Repeat("a", 201)), pick(r, "", "ba", "\n", strings.Repeat("é", 200)), number(), number())
		check("UnitF", e, f == api.Fraction{})
		draws, e := checks.Draws(r.Uint64(), number(), number())
		check("Draws", e, draws == nil)
		a, b := some(r, pick(r, 3, 3, 300), part), some(r, 3, part)
		draws = append(draws, some(r, pick(r, 2, 2, 1100), func() []int { return some(r, pick(r, 2, 2, 300), func() int { return pick(r, 0, 0, 1, number()) }) })...)
		low, high, e := checks.Interval(a, draws, number())
		check("Interval", e, low == api.Fraction{} && high == api.Fraction{})
		more, less, e := checks.Better(a, b, draws)
		check("Better", e, more == 0 && less == 0)
	}
	for _, e := range []api.Errno{api.OK, api.ErrArg, api.ErrLimit, api.ErrForm, api.ErrName, api.ErrTwice, api.ErrScope, api.ErrState} {
		if codes[e] == 0 {
			t.Errorf("error %d was not seen: %v", e, codes)
		}
	}
}

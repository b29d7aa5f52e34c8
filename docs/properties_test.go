package docs_test

import (
	"math/rand/v2"
	"reflect"
	"slices"
	"strconv"
	"strings"
	"testing"

	"truchman/api"
	"truchman/docs"
)

// Tests of P1.5 to P1.8 and P0.1, with many values that a seed makes.

const rounds = 3000

func dice() *rand.Rand { return rand.New(rand.NewPCG(1, 2)) }

func pick[T any](r *rand.Rand, l ...T) T { return l[r.IntN(len(l))] }

func anyText(r *rand.Rand) string {
	var out strings.Builder
	for range 1 + r.IntN(6) {
		out.WriteString(pick(r, "a", "B", "7", " ", ".", ",", "(", "<", "{", `\`, "é", "日", "}", "b c", "X. Y"))
	}
	return out.String()
}

// anyPieces makes a valid list; each tag has a name of its own.
func anyPieces(r *rand.Rand, carriedTags bool) []api.Piece {
	var out []api.Piece
	var open []string
	name := func() string { return "t" + strconv.Itoa(len(out)) }
	begin := func(isCarried bool) {
		open = append(open, name())
		out = append(out, api.Piece{Kind: api.PiOpen, Text: open[len(open)-1], Carried: isCarried})
	}
	end := func(isCarried bool) {
		out = append(out, api.Piece{Kind: api.PiClose, Text: open[len(open)-1], Carried: isCarried})
		open = open[:len(open)-1]
	}
	for carriedTags && r.IntN(3) == 0 && len(open) < 5 {
		begin(true)
	}
	for range r.IntN(12) {
		switch k := r.IntN(6); {
		case k == 0 && len(open) < api.MaxTags:
			begin(false)
		case k == 1 && len(open) > 0:
			end(false)
		case k == 2:
			out = append(out, lone(name()))
		case k == 3:
			out = append(out, gap("n"))
		case len(out) == 0 || out[len(out)-1].Kind != api.PiText:
			out = append(out, text(anyText(r)))
		}
	}
	for carriedTags && len(open) > 0 && r.IntN(3) > 0 {
		end(false)
	}
	for len(open) > 0 {
		end(carriedTags)
	}
	return out
}

func anyDocument(r *rand.Rand) api.Document {
	var d api.Document
	for range r.IntN(5) {
		b := api.Block{Kind: api.BlockKind(1 + r.IntN(6)), Pieces: anyPieces(r, false)}
		if b.Kind == api.BlRaw {
			b.Pieces = pieces(text(anyText(r)))
		}
		d.Blocks = append(d.Blocks, b)
	}
	return d
}

func anyCuts(r *rand.Rand, n int) []int {
	var at []int
	for k := 1; k < n; k++ {
		if r.IntN(3) == 0 {
			at = append(at, k)
		}
	}
	return at
}

// P1.5: lists and documents are written and read as they were.
func TestThereAndBack(t *testing.T) {
	r := dice()
	for range rounds {
		l := anyPieces(r, true)
		if got := read(t, written(t, l)); !slices.Equal(got, l) {
			t.Fatalf("%v became %v", l, got)
		}
		d := anyDocument(r)
		if got := parse(t, printed(t, d)); !docs.Same(got, d) {
			t.Fatalf("%v became %v", d, got)
		}
	}
}

// P1.5, the other way round: whatever is accepted as a written form is written like that.
func TestBackAndThere(t *testing.T) {
	r := dice()
	accepted := 0
	for range 20 * rounds {
		var out strings.Builder
		for range r.IntN(8) {
			out.WriteString(pick(r, "<b>", "</b>", "<+b>", "</+b>", "<b/>", "{n}", "a", "<", ">", "{", "}", "/", "+", `\`, `\<`, `\\`, "é", "\n", "p ", "raw ", " ", "\x80"))
		}
		s := out.String()
		if l, e := docs.Read(s); e == api.OK {
			accepted++
			if got := written(t, l); got != s {
				t.Fatalf("%q became %q", s, got)
			}
		}
		if d, _, e := docs.Parse(s); e == api.OK {
			if got := printed(t, d); got != s {
				t.Fatalf("%q became %q", s, got)
			}
		}
		if d, _, e := docs.Parse("li " + s + "\n"); e == api.OK {
			if got := printed(t, d); got != "li "+s+"\n" {
				t.Fatalf("%q became %q", s, got)
			}
		}
	}
	if accepted < rounds {
		t.Errorf("only %d texts were accepted", accepted)
	}
}

// P1.6: the parts of a list are valid, and glued they are the list.
func TestCutAndGlued(t *testing.T) {
	r := dice()
	for range rounds {
		l := anyPieces(r, true)
		n, e := docs.Units(l)
		if e != api.OK {
			t.Fatal(l, e)
		}
		at := anyCuts(r, n)
		parts, e := docs.Cut(l, at)
		if e != api.OK || len(parts) != len(at)+1 {
			t.Fatal(l, at, parts, e)
		}
		plain, last := "", 0
		for i, part := range parts {
			if e := docs.CheckPieces(part); e != api.OK {
				t.Fatalf("%v at %v: part %d: error %d", l, at, i, e)
			}
			plain += docs.Plain(part)
			if n, _ := docs.Units(part); i < len(at) && n != at[i]-last {
				t.Fatalf("%v at %v: part %d has %d units", l, at, i, n)
			}
			if i < len(at) {
				last = at[i]
			}
		}
		if plain != docs.Plain(l) {
			t.Fatalf("%v at %v: %q", l, at, plain)
		}
		if got, e := docs.Glue(parts); e != api.OK || !slices.Equal(got, l) {
			t.Fatalf("%v at %v: %v, error %d", l, at, got, e)
		}
	}
}

// P1.6: a document's own segments give the document.
func TestRestored(t *testing.T) {
	r := dice()
	some := append(rules(), api.Break{Before: "%h", Break: true}, api.Break{Before: "%s", After: "%a", Break: true})
	for range rounds {
		d := anyDocument(r)
		l, e := docs.Segments(d, some[r.IntN(len(some)):])
		if e != api.OK {
			t.Fatal(d, e)
		}
		if got, e := docs.Restore(d, l); e != api.OK || !docs.Same(got, d) {
			t.Fatalf("%v became %v, error %d", d, got, e)
		}
	}
}

// P1.3: Breaks and Fits agree, by the first rule that fits.
func TestBreaksByFits(t *testing.T) {
	r := dice()
	for range rounds / 10 {
		var l []api.Piece
		for len(l) < 3 {
			l = anyPieces(r, true)
		}
		var some []api.Break
		for range r.IntN(4) {
			item := func() string {
				return pick(r, "", "%a", "%u", "%l", "%d", "%s", "%p", "%h", "%.", "%b", ".%s", "%b%a", "é")
			}
			some = append(some, api.Break{Before: item(), After: item(), Break: r.IntN(2) == 0})
		}
		n, _ := docs.Units(l)
		var want []int
		for k := 1; k < n; k++ {
			i := slices.IndexFunc(some, func(b api.Break) bool {
				fits, e := docs.Fits(b, l, k)
				return fits && e == api.OK
			})
			if i >= 0 && some[i].Break {
				want = append(want, k)
			}
		}
		if at, e := docs.Breaks(some, l); e != api.OK || !slices.Equal(at, want) {
			t.Fatalf("%v in %v: %v, error %d, want %v", some, l, at, e, want)
		}
	}
}

// P1.7: the words of the spaced form are the words.
func TestWordsThereAndBack(t *testing.T) {
	r := dice()
	accepted := 0
	for range 10 * rounds {
		var words []string
		for range r.IntN(7) {
			words = append(words, pick(r, "a", "b7", ".", ",", "(", ")", "]", "[", "-", "<", "{", `\`, "é", "{n}", "<b>", "</b>", "<+b>", "</+b>", "<i/>", "x y", ""))
		}
		l, e := docs.FromWords(words)
		if f := docs.CheckWords(words); f != e {
			t.Fatalf("%q: errors %d and %d", words, e, f)
		}
		if e != api.OK {
			continue
		}
		accepted++
		if got, e := docs.Words(l); e != api.OK || !slices.Equal(got, words) {
			t.Fatalf("%q became %q, error %d", words, got, e)
		}
	}
	if accepted < rounds {
		t.Errorf("only %d lists were accepted", accepted)
	}
}

// span is where an element stands: behind so many words, and among which tags.
type span struct {
	name, around string
	isCarried    [2]bool
	begin, end   int
}

// spans returns the elements of a list by their names, which are all unlike, in the order of the list.
func spans(t *testing.T, l []api.Piece) []span {
	t.Helper()
	words, e := docs.Words(l)
	if e != api.OK {
		t.Fatal(l, e)
	}
	var out []span
	var open []int
	bare := 0
	for _, w := range words {
		p := tagOf(w)
		around := ""
		if len(open) > 0 {
			around = out[open[len(open)-1]].name
		}
		switch p.Kind {
		case api.PiOpen:
			open = append(open, len(out))
			out = append(out, span{p.Text, around, [2]bool{p.Carried, false}, bare, 0})
		case api.PiClose:
			x := &out[open[len(open)-1]]
			x.end, x.isCarried[1] = bare, p.Carried
			open = open[:len(open)-1]
		case api.PiEmpty:
			out = append(out, span{p.Text, around, [2]bool{}, bare, bare})
		default:
			bare++
		}
	}
	return out
}

// tagOf returns the tag that a word is, or a piece of no kind.
func tagOf(w string) api.Piece {
	name := strings.Trim(w, "<+/>")
	forms := map[string]api.Piece{
		"<" + name + ">": open(name), "<+" + name + ">": carried(open(name)), "<" + name + "/>": lone(name),
		"</" + name + ">": shut(name), "</+" + name + ">": carried(shut(name)),
	}
	if name == "" {
		return api.Piece{}
	}
	return forms[w]
}

// P1.8, and where Project's section puts each element.
func TestProjected(t *testing.T) {
	r := dice()
	count := map[api.Errno]int{}
	for range 20 * rounds {
		l := anyPieces(r, r.IntN(2) == 0)
		source, _ := docs.Words(l)
		bare := len(docs.Bare(source))
		var words []string
		for range r.IntN(7) {
			words = append(words, pick(r, "x", "y", ".", "{n}", "("))
		}
		var some []api.Tie
		for i := 0; i < 4 && bare > 0 && len(words) > 0; i++ {
			some = append(some, api.Tie{Source: r.IntN(bare), Target: r.IntN(len(words))})
		}
		got, e := docs.Project(l, words, some)
		count[e]++
		want, f := placed(spans(t, l), some, len(words))
		if e != api.OK {
			if e == api.ErrClash != (f == api.ErrClash) || e != api.ErrClash && e != api.ErrState {
				t.Fatalf("Project(%v, %q, %v): error %d", l, words, some, e)
			}
			continue
		}
		if e := docs.CheckPieces(got); e != api.OK || f != api.OK {
			t.Fatalf("Project(%v, %q, %v): %v is not valid: %d, %d", l, words, some, got, e, f)
		}
		if all, _ := docs.Words(got); !slices.Equal(docs.Bare(all), words) {
			t.Fatalf("Project(%v, %q, %v): words %q", l, words, some, all)
		}
		if back, e := docs.FromWords(mustWords(t, got)); e != api.OK || !slices.Equal(back, got) {
			t.Fatalf("Project(%v, %q, %v): %v is no spaced form", l, words, some, got)
		}
		before, _ := docs.Tags(l)
		after, _ := docs.Tags(got)
		slices.Sort(before)
		slices.Sort(after)
		if !slices.Equal(before, after) {
			t.Fatalf("Project(%v, %q, %v): tags %q", l, words, some, after)
		}
		if at := spans(t, got); !reflect.DeepEqual(at, want) {
			t.Fatalf("Project(%v, %q, %v): spans\n%v, want\n%v", l, words, some, at, want)
		}
	}
	for _, e := range []api.Errno{api.OK, api.ErrClash, api.ErrState} {
		if count[e] < rounds/10 {
			t.Errorf("error %d came just %d times", e, count[e])
		}
	}
}

func mustWords(t *testing.T, l []api.Piece) []string {
	t.Helper()
	w, e := docs.Words(l)
	if e != api.OK {
		t.Fatal(l, e)
	}
	return w
}

// placed reckons, from the elements of a source, those of its translation with n words, in the order of their opening tags.
func placed(source []span, some []api.Tie, n int) ([]span, api.Errno) {
	out := slices.Clone(source)
	around := func(i int) (int, int) {
		for _, x := range out[:i] {
			if x.name == out[i].around {
				return x.begin, x.end
			}
		}
		return 0, n
	}
	for i, x := range source { // an element stands behind the one around it
		var inside, ahead []int
		for _, tie := range some {
			if tie.Source < x.begin {
				ahead = append(ahead, tie.Target+1)
			} else if tie.Source < x.end {
				inside = append(inside, tie.Target)
			}
		}
		if len(inside) > 0 {
			out[i].begin, out[i].end = slices.Min(inside), slices.Max(inside)+1
			continue
		}
		low, high := around(i)
		place := min(max(slices.Max(append(ahead, 0)), low), high)
		for j, b := range source { // the full spans of brothers, of which some may stand behind
			var ties []int
			for _, tie := range some {
				if b.begin <= tie.Source && tie.Source < b.end && b.around == x.around && i != j {
					ties = append(ties, tie.Target)
				}
			}
			if len(ties) > 0 && slices.Min(ties) < place && place <= slices.Max(ties) {
				place = slices.Max(ties) + 1
				break
			}
		}
		out[i].begin, out[i].end = place, place
	}
	for i, a := range out {
		for _, b := range out[:i] {
			if a.around == b.around && max(a.begin, b.begin) < min(a.end, b.end) {
				return nil, api.ErrClash
			}
		}
	}
	return inOrder(out, ""), api.OK
}

// inOrder puts elements in the order in which they stand: at a place those that end there, the empty ones, those that begin there.
func inOrder(all []span, around string) []span {
	var brothers, out []span
	for _, x := range all {
		if x.around == around {
			brothers = append(brothers, x)
		}
	}
	slices.SortStableFunc(brothers, func(a, b span) int {
		if a.begin != b.begin {
			return a.begin - b.begin
		}
		return a.end - b.end
	})
	for _, x := range brothers {
		out = append(out, x)
		out = append(out, inOrder(all, x.name)...)
	}
	return out
}

// P0.1: any arguments are answered, with zero values beside an error.
func TestAnyArguments(t *testing.T) {
	r := dice()
	anyPiece := func() api.Piece {
		return api.Piece{Kind: pick(r, api.PieceKind(0), 1, 1, 2, 3, 4, 5, 6, 255), Text: pick(r, "", "a", "b", "b", "\xff", "a b", "B"), Carried: r.IntN(4) == 0}
	}
	list := func() []api.Piece {
		var l []api.Piece
		for range r.IntN(5) {
			l = append(l, anyPiece())
		}
		return l
	}
	number := func() int { return pick(r, -1<<63, -1, 0, 1, 2, 3, 1<<63-1) }
	for range 10 * rounds {
		l, m := list(), list()
		d := api.Document{Blocks: []api.Block{{Kind: api.BlockKind(r.IntN(9)), Pieces: l}, {Kind: api.BlPara, Pieces: m}}}
		b := api.Break{Before: pick(r, "", "%", "%b", "a%.", "\xff", "%."), After: pick(r, "", "%b%h", "%p", "%%%")}
		words := []string{pick(r, "a", "<b>", "</b>", "", "{x}"), pick(r, "</b>", ".", "\xff", "x")}
		if s, e := docs.Write(l); e != docs.CheckPieces(l) || e != api.OK && s != "" {
			t.Fatal(l, s, e)
		}
		docs.Plain(l)
		docs.Same(d, d)
		docs.Bare(words)
		if got, e := docs.Print(d); e != docs.Check(d) || e != api.OK && got != "" {
			t.Fatal(d, got, e)
		}
		if got, e := docs.Breaks([]api.Break{b}, l); e != api.OK && got != nil {
			t.Fatal(b, l, got, e)
		}
		if got, e := docs.Fits(b, l, number()); e != api.OK && got {
			t.Fatal(b, l, e)
		}
		if got, e := docs.Cut(l, []int{number(), number()}); e != api.OK && got != nil {
			t.Fatal(l, got, e)
		}
		if got, e := docs.Glue([][]api.Piece{l, m}); e != api.OK && got != nil {
			t.Fatal(l, m, got, e)
		}
		if got, e := docs.Segments(d, []api.Break{b}); e != api.OK && got != nil {
			t.Fatal(d, got, e)
		}
		if got, e := docs.Restore(d, []api.Segment{{Block: number(), Pieces: l}, {Block: number(), Pieces: m}}); e != api.OK && got.Blocks != nil {
			t.Fatal(d, got, e)
		}
		if got, e := docs.FromWords(words); e != docs.CheckWords(words) || e != api.OK && got != nil {
			t.Fatal(words, got, e)
		}
		if got, e := docs.Project(l, words, []api.Tie{{Source: number(), Target: number()}}); e != api.OK && got != nil {
			t.Fatal(l, words, got, e)
		}
	}
}

package docs

import (
	"cmp"
	"slices"

	"truchman/api"
)

// element is a tag that opens with the one that closes it, or an empty tag.
type element struct {
	open, close   api.Piece // close is of no kind if the tag is empty
	first, behind int       // its bare words in the source: from first on, up to the one ahead of behind
	begin, end    int       // its span in the translation
	kids          []*element
}

// full reports whether something is tied from inside of the element: such a span has at least one word.
func (x *element) full() bool { return x.begin < x.end }

// Project carries the tags of a source segment over to a translation.
func Project(l []api.Piece, words []string, ties []api.Tie) ([]api.Piece, api.Errno) {
	if e := checkProject(l, words, ties); e != api.OK {
		return nil, e
	}
	all := nest(l)
	all.end = len(words)
	if e := all.decide(ties); e != api.OK {
		return nil, e
	}
	bare, _ := readWords(words)
	laid := all.lay(nil, bare)
	for i := range laid {
		if i > 0 && misplaced(laid[i-1], laid[i]) {
			return nil, api.ErrState
		}
	}
	if len(laid) > api.MaxWords {
		return nil, api.ErrLimit
	}
	out := space(laid)
	if isLong(out) {
		return nil, api.ErrLimit
	}
	return out, api.OK
}

// checkProject returns the first error of Project's arguments.
func checkProject(l []api.Piece, words []string, ties []api.Tie) api.Errno {
	if e := CheckWords(words); e != api.OK {
		return e
	}
	if slices.ContainsFunc(words, isTagWord) {
		return api.ErrArg
	}
	source, e := Words(l)
	if e != api.OK {
		return e
	}
	if len(ties) > api.MaxTies {
		return api.ErrLimit
	}
	bare := len(Bare(source))
	for _, t := range ties {
		if t.Source < 0 || t.Source >= bare || t.Target < 0 || t.Target >= len(words) {
			return api.ErrArg
		}
	}
	return api.OK
}

// nest returns an element around all of a list, with the elements of the list inside of it.
func nest(l []api.Piece) *element {
	all := &element{}
	around := all
	var open stack[*element]
	words := 0
	for _, p := range l {
		switch p.Kind {
		case api.PiOpen:
			x := &element{open: p, first: words}
			around.kids = append(around.kids, x)
			open.push(around)
			around = x
		case api.PiClose:
			around.close, around.behind = p, words
			around, _ = open.pop()
		case api.PiEmpty:
			around.kids = append(around.kids, &element{open: p, first: words, behind: words})
		default:
			for range wordsOf(p) {
				words++
			}
		}
	}
	return all
}

// decide gives spans to all elements inside of x, whose own span is decided.
func (x *element) decide(ties []api.Tie) api.Errno {
	for _, kid := range x.kids {
		kid.span(ties, x)
	}
	if clash(x.kids) {
		return api.ErrClash
	}
	for _, kid := range x.kids {
		kid.moveOut(x.kids)
	}
	for _, kid := range x.kids {
		if e := kid.decide(ties); e != api.OK {
			return e
		}
	}
	return api.OK
}

// span gives x its span as the ties have it, inside of the element directly around it.
func (x *element) span(ties []api.Tie, around *element) {
	ahead, least, greatest := -1, -1, -1
	for _, t := range ties {
		switch {
		case t.Source < x.first:
			ahead = max(ahead, t.Target)
		case t.Source < x.behind:
			if least < 0 || t.Target < least {
				least = t.Target
			}
			greatest = max(greatest, t.Target)
		}
	}
	if least >= 0 {
		x.begin, x.end = least, greatest+1
		return
	}
	x.begin = min(max(ahead+1, around.begin), around.end)
	x.end = x.begin
}

// clash reports whether two full spans have a word in common.
func clash(brothers []*element) bool {
	for i, a := range brothers {
		for _, b := range brothers[:i] {
			if a.full() && b.full() && a.begin < b.end && b.begin < a.end {
				return true
			}
		}
	}
	return false
}

// moveOut moves an empty span behind the full span of the brother that it stands strictly inside of.
func (x *element) moveOut(brothers []*element) {
	if x.full() {
		return
	}
	for _, b := range brothers {
		if b.begin < x.begin && x.begin < b.end {
			x.begin, x.end = b.end, b.end
			return
		}
	}
}

// lay appends what stands in the span of x to out: its words, and the elements inside of it with their tags.
func (x *element) lay(out, words []api.Piece) []api.Piece {
	kids := slices.Clone(x.kids)
	slices.SortStableFunc(kids, func(a, b *element) int {
		// At a place, empty spans come ahead of the full one that begins there; and a full one that ends there has begun ahead of it.
		return cmp.Or(cmp.Compare(a.begin, b.begin), cmp.Compare(rank(a), rank(b)))
	})
	at := x.begin
	for _, kid := range kids {
		out = append(out, words[at:kid.begin]...)
		out = append(out, kid.open)
		out = kid.lay(out, words)
		if kid.close.Kind == api.PiClose {
			out = append(out, kid.close)
		}
		at = kid.end
	}
	return append(out, words[at:x.end]...)
}

func rank(x *element) int {
	if x.full() {
		return 1
	}
	return 0
}

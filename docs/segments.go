package docs

import (
	"slices"

	"truchman/api"
)

// Cut returns the parts of a list.
func Cut(l []api.Piece, at []int) ([][]api.Piece, api.Errno) {
	n, e := Units(l)
	if e != api.OK {
		return nil, e
	}
	if !areCuts(at, n) {
		return nil, api.ErrArg
	}
	var parts [][]api.Piece
	var part joiner
	var open stack[string]
	for place, p := range steps(l) {
		// Closing tags that come first at a place still belong to the part ahead.
		if len(at) > 0 && place == at[0] && p.Kind != api.PiClose {
			for _, name := range slices.Backward(open) {
				part.put(api.Piece{Kind: api.PiClose, Text: name, Carried: true})
			}
			parts = append(parts, part.done())
			part = joiner{}
			for _, name := range open {
				part.put(api.Piece{Kind: api.PiOpen, Text: name, Carried: true})
			}
			at = at[1:]
		}
		follow(&open, p)
		part.put(p)
	}
	parts = append(parts, part.done())
	if slices.ContainsFunc(parts, isLong) {
		return nil, api.ErrLimit
	}
	return parts, api.OK
}

// areCuts reports whether at is strictly increasing, between 0 and n.
func areCuts(at []int, n int) bool {
	last := 0
	for _, place := range at {
		if place <= last || place >= n {
			return false
		}
		last = place
	}
	return true
}

func isLong(l []api.Piece) bool { return len(l) > api.MaxPieces }

// Glue puts parts together.
func Glue(parts [][]api.Piece) ([]api.Piece, api.Errno) {
	if len(parts) == 0 {
		return nil, api.ErrArg
	}
	for _, part := range parts {
		if e := CheckPieces(part); e != api.OK {
			return nil, e
		}
	}
	for i := range parts[1:] {
		if !fitTogether(parts[i], parts[i+1]) {
			return nil, api.ErrClash
		}
	}
	var out joiner
	for i, part := range parts {
		for _, p := range part {
			inner := isCarriedOpen(p) && i > 0 || isCarriedClose(p) && i < len(parts)-1
			if !inner {
				out.put(p)
			}
		}
	}
	l := out.done()
	if isLong(l) {
		return nil, api.ErrLimit
	}
	return l, api.OK
}

// fitTogether reports whether what a closes for now is what b opens once more.
func fitTogether(a, b []api.Piece) bool {
	var closed, opened []string
	for _, p := range a {
		if isCarriedClose(p) {
			closed = append(closed, p.Text)
		}
	}
	for _, p := range b {
		if isCarriedOpen(p) {
			opened = append(opened, p.Text)
		}
	}
	slices.Reverse(opened)
	return slices.Equal(closed, opened)
}

// Segments returns the segments of a document.
func Segments(d api.Document, rules []api.Break) ([]api.Segment, api.Errno) {
	if e := Check(d); e != api.OK {
		return nil, e
	}
	if e := CheckBreaks(rules); e != api.OK {
		return nil, e
	}
	var out []api.Segment
	for n, b := range d.Blocks {
		if b.Kind == api.BlRaw {
			continue
		}
		at, e := Breaks(rules, b.Pieces)
		if e != api.OK {
			return nil, e
		}
		parts, e := Cut(b.Pieces, at)
		if e != api.OK {
			return nil, e
		}
		for _, part := range parts {
			out = append(out, api.Segment{Block: n, Pieces: part})
		}
	}
	return out, api.OK
}

// Restore puts segments in the place of a document's own.
func Restore(d api.Document, segments []api.Segment) (api.Document, api.Errno) {
	if e := Check(d); e != api.OK {
		return api.Document{}, e
	}
	parts, ok := share(d, segments)
	if !ok {
		return api.Document{}, api.ErrArg
	}
	var out api.Document
	for n, b := range d.Blocks {
		if b.Kind == api.BlRaw {
			out.Blocks = append(out.Blocks, api.Block{Kind: b.Kind, Pieces: slices.Clone(b.Pieces)})
			continue
		}
		l, e := Glue(parts[n])
		if e != api.OK {
			return api.Document{}, e
		}
		if !whole(l) {
			return api.Document{}, api.ErrState
		}
		out.Blocks = append(out.Blocks, api.Block{Kind: b.Kind, Pieces: l})
	}
	return out, api.OK
}

// share returns the parts of each block; false if the segments are not those of the blocks, in order, of which none is raw and none is missing.
func share(d api.Document, segments []api.Segment) ([][][]api.Piece, bool) {
	parts := make([][][]api.Piece, len(d.Blocks))
	last := 0
	for _, s := range segments {
		if s.Block < last || s.Block >= len(d.Blocks) || d.Blocks[s.Block].Kind == api.BlRaw {
			return nil, false
		}
		last = s.Block
		parts[last] = append(parts[last], s.Pieces)
	}
	for n, b := range d.Blocks {
		if b.Kind != api.BlRaw && len(parts[n]) == 0 {
			return nil, false
		}
	}
	return parts, true
}

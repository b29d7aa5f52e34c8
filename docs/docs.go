// Package docs is layer 1: see shared/doc/01-docs.md.
package docs

import (
	"slices"
	"strings"

	"truchman/api"
)

// blockWords are the words of the kinds of blocks, by the numbers of the kinds.
var blockWords = [...]string{"", "h1", "h2", "h3", "p", "li", "raw"}

// Check returns the first error of a document.
func Check(d api.Document) api.Errno {
	if len(d.Blocks) > api.MaxBlocks {
		return api.ErrLimit
	}
	for _, b := range d.Blocks {
		if e := checkBlock(b); e != api.OK {
			return e
		}
	}
	return api.OK
}

func checkBlock(b api.Block) api.Errno {
	if b.Kind == api.BlNone || b.Kind > api.BlRaw {
		return api.ErrArg
	}
	if e := CheckPieces(b.Pieces); e != api.OK {
		return e
	}
	if !whole(b.Pieces) {
		return api.ErrState
	}
	if b.Kind == api.BlRaw && slices.ContainsFunc(b.Pieces, isNoText) {
		return api.ErrArg
	}
	return api.OK
}

func isNoText(p api.Piece) bool { return p.Kind != api.PiText }

func isCarried(p api.Piece) bool { return p.Carried }

func whole(l []api.Piece) bool { return !slices.ContainsFunc(l, isCarried) }

// Print returns the written form of a document.
func Print(d api.Document) (string, api.Errno) {
	if e := Check(d); e != api.OK {
		return "", e
	}
	var out []byte
	for _, b := range d.Blocks {
		out = append(out, blockWords[b.Kind]...)
		out = append(out, ' ')
		out = appendPieces(out, b.Pieces)
		out = append(out, '\n')
	}
	if len(out) > api.MaxText {
		return "", api.ErrLimit
	}
	return string(out), api.OK
}

// Parse returns the document of a written form, or the line that is wrong.
func Parse(text string) (d api.Document, line int, e api.Errno) {
	if len(text) > api.MaxText {
		return api.Document{}, 0, api.ErrLimit
	}
	for n := 0; text != ""; n++ {
		if n == api.MaxBlocks {
			return api.Document{}, n, api.ErrLimit
		}
		now, rest, ended := strings.Cut(text, "\n")
		if !ended {
			return api.Document{}, n, api.ErrForm
		}
		b, e := parseBlock(now)
		if e != api.OK {
			return api.Document{}, n, e
		}
		d.Blocks = append(d.Blocks, b)
		text = rest
	}
	return d, 0, api.OK
}

func parseBlock(line string) (api.Block, api.Errno) {
	word, rest, found := strings.Cut(line, " ")
	kind, ok := blockKind(word)
	if !found || !ok {
		return api.Block{}, api.ErrForm
	}
	l, e := Read(rest)
	if e != api.OK {
		return api.Block{}, e
	}
	b := api.Block{Kind: kind, Pieces: l}
	if e := checkBlock(b); e != api.OK {
		return api.Block{}, e
	}
	return b, api.OK
}

func blockKind(word string) (api.BlockKind, bool) {
	for k := api.BlH1; k <= api.BlRaw; k++ {
		if blockWords[k] == word {
			return k, true
		}
	}
	return api.BlNone, false
}

// Same reports whether two documents are equal.
func Same(a, b api.Document) bool { return slices.EqualFunc(a.Blocks, b.Blocks, sameBlock) }

func sameBlock(a, b api.Block) bool { return a.Kind == b.Kind && slices.Equal(a.Pieces, b.Pieces) }

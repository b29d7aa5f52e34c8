package docs_test

import (
	"slices"
	"strings"
	"testing"

	"truchman/api"
	"truchman/docs"
)

func text(s string) api.Piece       { return api.Piece{Kind: api.PiText, Text: s} }
func open(s string) api.Piece       { return api.Piece{Kind: api.PiOpen, Text: s} }
func shut(s string) api.Piece       { return api.Piece{Kind: api.PiClose, Text: s} }
func lone(s string) api.Piece       { return api.Piece{Kind: api.PiEmpty, Text: s} }
func gap(s string) api.Piece        { return api.Piece{Kind: api.PiHole, Text: s} }
func carried(p api.Piece) api.Piece { p.Carried = true; return p }

func pieces(l ...api.Piece) []api.Piece { return l }

func repeat(n int, p ...api.Piece) []api.Piece { return slices.Repeat(p, n) }

func read(t *testing.T, s string) []api.Piece {
	t.Helper()
	l, e := docs.Read(s)
	if e != api.OK {
		t.Fatalf("Read(%q): error %d", s, e)
	}
	return l
}

func readAll(t *testing.T, written ...string) [][]api.Piece {
	t.Helper()
	var out [][]api.Piece
	for _, s := range written {
		out = append(out, read(t, s))
	}
	return out
}

func written(t *testing.T, l []api.Piece) string {
	t.Helper()
	s, e := docs.Write(l)
	if e != api.OK {
		t.Fatalf("Write(%v): error %d", l, e)
	}
	return s
}

func writtenAll(t *testing.T, parts [][]api.Piece) []string {
	t.Helper()
	var out []string
	for _, l := range parts {
		out = append(out, written(t, l))
	}
	return out
}

func parse(t *testing.T, s string) api.Document {
	t.Helper()
	d, line, e := docs.Parse(s)
	if e != api.OK || line != 0 {
		t.Fatalf("Parse(%q): line %d, error %d", s, line, e)
	}
	return d
}

func printed(t *testing.T, d api.Document) string {
	t.Helper()
	s, e := docs.Print(d)
	if e != api.OK {
		t.Fatalf("Print(%v): error %d", d, e)
	}
	return s
}

func fields(s string) []string { return strings.Fields(s) }

// ties reads pairs of digits: "01 10" ties 0 to 1 and 1 to 0.
func ties(s string) []api.Tie {
	var out []api.Tie
	for _, w := range fields(s) {
		out = append(out, api.Tie{Source: int(w[0] - '0'), Target: int(w[1] - '0')})
	}
	return out
}

// crooked are lists that CheckPieces refuses, each with its error, for the functions that pass this error on.
func crooked() map[api.Errno][]api.Piece {
	return map[api.Errno][]api.Piece{
		api.ErrArg:   {{Kind: api.PiNone, Text: "a"}},
		api.ErrForm:  {text("")},
		api.ErrName:  {gap("N")},
		api.ErrState: {text("a"), carried(open("b")), shut("b")},
		api.ErrScope: {open("b")},
		api.ErrLimit: repeat(api.MaxPieces+1, gap("n")),
	}
}

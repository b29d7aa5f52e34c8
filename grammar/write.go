package grammar

import (
	"iter"
	"math"
	"strconv"
	"strings"

	"truchman/api"
)

// Write returns the text of a tree.
func Write(t api.Tree) (string, api.Errno) {
	if !fits(t) {
		return "", api.ErrLimit
	}
	return caught(func() string { return fold(t, writeNode) })
}

// writeNode returns the text of a node, by those of its kids.
func writeNode(t api.Tree, kids iter.Seq2[int, string]) string {
	if isLexical(t) {
		return writeLexical(t)
	}
	if !isBare(t) {
		panic(api.ErrArg)
	}
	out := "(" + writeNumber(t.Rule)
	for _, kid := range kids {
		out += " " + kid
	}
	return out + ")"
}

func writeLexical(t api.Tree) string {
	if len(t.Kids) > 0 {
		panic(api.ErrArg)
	}
	var out strings.Builder
	out.WriteString("[")
	for _, f := range t.From.Firsts {
		out.WriteString(writeNumber(f.Entry) + "." + writeNumber(f.Slot) + "." + writeNumber(f.Link) + " ")
	}
	out.WriteString(writeNumber(t.From.Entry) + " " + writeNumber(t.From.Slot) + " > ")
	out.WriteString(writeNumber(t.Entry) + " " + writeNumber(t.Slot) + "]")
	return out.String()
}

func writeNumber(n int) string {
	if n < 0 || n > math.MaxInt32 {
		panic(api.ErrArg)
	}
	return strconv.Itoa(n)
}

// readNumber returns the number from 0 to most of which s is how it is written.
func readNumber(s string, most int) int {
	n, err := strconv.Atoi(s)
	if err != nil || n < 0 || n > most || strconv.Itoa(n) != s {
		panic(api.ErrForm)
	}
	return n
}

// Read returns the tree of a text.
func Read(text string) (api.Tree, api.Errno) {
	if len(text) > api.MaxText {
		return api.Tree{}, api.ErrLimit
	}
	return caught(func() api.Tree {
		r := reader{text}
		t := r.tree()
		if r.rest != "" || !fits(t) {
			panic(api.ErrForm)
		}
		return t
	})
}

// reader reads a tree off the beginning of what is left of a text.
type reader struct{ rest string }

// takes takes a string off, if it stands there.
func (r *reader) takes(s string) bool {
	rest, ok := strings.CutPrefix(r.rest, s)
	r.rest = rest
	return ok
}

// want takes a string off, which must stand there.
func (r *reader) want(s string) {
	if !r.takes(s) {
		panic(api.ErrForm)
	}
}

// number takes a number off.
func (r *reader) number() int {
	end := 0
	for end < len(r.rest) && '0' <= r.rest[end] && r.rest[end] <= '9' {
		end++
	}
	n := readNumber(r.rest[:end], math.MaxInt32)
	r.rest = r.rest[end:]
	return n
}

func (r *reader) tree() api.Tree {
	if r.takes("[") {
		return r.lexical()
	}
	r.want("(")
	t := api.Tree{Rule: r.number()}
	for r.takes(" ") {
		t.Kids = append(t.Kids, r.tree())
	}
	r.want(")")
	return t
}

// lexical takes a lexical tree off, behind its `[`.
func (r *reader) lexical() api.Tree {
	t := api.Tree{Rule: lexical}
	t.From.Entry = r.number()
	for r.takes(".") { // it was the Entry of a first part
		first := api.First{Entry: t.From.Entry, Slot: r.number()}
		r.want(".")
		first.Link = r.number()
		r.want(" ")
		t.From.Firsts = append(t.From.Firsts, first)
		t.From.Entry = r.number()
	}
	r.want(" ")
	t.From.Slot = r.number()
	r.want(" > ")
	t.Entry = r.number()
	r.want(" ")
	t.Slot = r.number()
	r.want("]")
	return t
}

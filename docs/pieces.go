package docs

import (
	"strings"
	"unicode/utf8"

	"truchman/api"
)

// notation is how tags or holes of one kind are written: their name between two strings.
type notation struct {
	kind       api.PieceKind
	carried    bool
	begin, end string
}

// notations serve writing and reading alike, so that each undoes the other. No name contains a byte of begin or end, so at most one of them fits a string.
var notations = [...]notation{
	{api.PiOpen, false, "<", ">"},
	{api.PiOpen, true, "<+", ">"},
	{api.PiClose, false, "</", ">"},
	{api.PiClose, true, "</+", ">"},
	{api.PiEmpty, false, "<", "/>"},
	{api.PiHole, false, "{", "}"},
}

// isText reports whether s is text, which may be empty.
func isText(s string) bool {
	for _, r := range s {
		if classOf(r) == control {
			return false
		}
	}
	return utf8.ValidString(s)
}

// isName reports whether s is a name of tags and holes.
func isName(s string) bool {
	for i := range len(s) {
		begins := 'a' <= s[i] && s[i] <= 'z'
		goesOn := begins || '0' <= s[i] && s[i] <= '9' || s[i] == '-'
		if !begins && (i == 0 || !goesOn) {
			return false
		}
	}
	return s != "" && len(s) <= api.MaxTagName
}

func isTag(p api.Piece) bool {
	return p.Kind == api.PiOpen || p.Kind == api.PiClose || p.Kind == api.PiEmpty
}

func isCarriedOpen(p api.Piece) bool { return p.Kind == api.PiOpen && p.Carried }

func isCarriedClose(p api.Piece) bool { return p.Kind == api.PiClose && p.Carried }

// CheckPieces returns the first error of a list of pieces.
func CheckPieces(l []api.Piece) api.Errno {
	if len(l) > api.MaxPieces {
		return api.ErrLimit
	}
	var open stack[string]
	for i, p := range l {
		if e := checkPiece(p); e != api.OK {
			return e
		}
		if i > 0 {
			if e := checkNeighbours(l[i-1], p); e != api.OK {
				return e
			}
		}
		if e := follow(&open, p); e != api.OK {
			return e
		}
	}
	if len(open) > 0 {
		return api.ErrScope
	}
	return api.OK
}

// checkPiece returns the first error that a piece has by itself.
func checkPiece(p api.Piece) api.Errno {
	switch p.Kind {
	case api.PiOpen, api.PiClose:
	case api.PiText, api.PiEmpty, api.PiHole:
		if p.Carried {
			return api.ErrArg
		}
	default:
		return api.ErrArg
	}
	if p.Kind == api.PiText {
		if p.Text == "" || !isText(p.Text) {
			return api.ErrForm
		}
	} else if !isName(p.Text) {
		return api.ErrName
	}
	return api.OK
}

// checkNeighbours returns the first error that p has because of the piece right ahead of it.
func checkNeighbours(ahead, p api.Piece) api.Errno {
	if p.Kind == api.PiText && ahead.Kind == api.PiText {
		return api.ErrForm
	}
	if misplaced(ahead, p) {
		return api.ErrState
	}
	return api.OK
}

// misplaced reports whether p is, or stands behind, a carried tag at a place where it may not. It is enough to ask of each piece and the one right ahead of it: the first piece that is out of place behind any other one is so behind its neighbour.
func misplaced(ahead, p api.Piece) bool {
	return isCarriedOpen(p) && !isCarriedOpen(ahead) || isCarriedClose(ahead) && !isCarriedClose(p)
}

// follow keeps the names of the tags that are open behind p.
func follow(open *stack[string], p api.Piece) api.Errno {
	switch p.Kind {
	case api.PiOpen:
		open.push(p.Text)
		if len(*open) > api.MaxTags {
			return api.ErrLimit
		}
	case api.PiClose:
		if name, ok := open.pop(); !ok || name != p.Text {
			return api.ErrScope
		}
	}
	return api.OK
}

// Write returns the written form of pieces.
func Write(l []api.Piece) (string, api.Errno) {
	if e := CheckPieces(l); e != api.OK {
		return "", e
	}
	out := appendPieces(nil, l)
	if len(out) > api.MaxText {
		return "", api.ErrLimit
	}
	return string(out), api.OK
}

func appendPieces(out []byte, l []api.Piece) []byte {
	for _, p := range l {
		if p.Kind == api.PiText {
			out = appendText(out, p.Text)
		} else {
			out = append(out, writeMark(p)...)
		}
	}
	return out
}

func appendText(out []byte, text string) []byte {
	for i := range len(text) {
		if isSpecial(text[i]) {
			out = append(out, '\\')
		}
		out = append(out, text[i])
	}
	return out
}

func isSpecial(b byte) bool { return b == '\\' || b == '<' || b == '{' }

// writeMark returns the written form of a tag or a hole.
func writeMark(p api.Piece) string {
	for _, n := range notations {
		if n.kind == p.Kind && n.carried == p.Carried {
			return n.begin + p.Text + n.end
		}
	}
	return ""
}

// readMark returns the tag or the hole of which s is the written form; false if it is of none.
func readMark(s string) (api.Piece, bool) {
	for _, n := range notations {
		rest, begins := strings.CutPrefix(s, n.begin)
		name, ends := strings.CutSuffix(rest, n.end)
		if begins && ends && isName(name) {
			return api.Piece{Kind: n.kind, Text: name, Carried: n.carried}, true
		}
	}
	return api.Piece{}, false
}

// Read returns the pieces of a written form.
func Read(text string) ([]api.Piece, api.Errno) {
	if len(text) > api.MaxText {
		return nil, api.ErrLimit
	}
	l, ok := split(text)
	if !ok {
		return nil, api.ErrForm
	}
	if e := CheckPieces(l); e != api.OK {
		return nil, e
	}
	return l, api.OK
}

// split returns the pieces of a written form, which need not be valid together; false if it is no written form.
func split(text string) ([]api.Piece, bool) {
	var (
		out  joiner
		stop int
		end  byte
		p    api.Piece
		ok   bool
	)
	if !isText(text) {
		return nil, false
	}
next:
	stop = strings.IndexAny(text, `\<{`)
	if stop < 0 {
		goto last
	}
	out.putText(text[:stop])
	text = text[stop:]
	switch text[0] {
	case '<':
		end = '>'
		goto mark
	case '{':
		end = '}'
		goto mark
	}
	if len(text) < 2 || !isSpecial(text[1]) {
		return nil, false
	}
	out.putText(text[1:2])
	text = text[2:]
	goto next
mark:
	stop = strings.IndexByte(text, end)
	if p, ok = readMark(text[:stop+1]); !ok {
		return nil, false
	}
	out.put(p)
	text = text[stop+1:]
	goto next
last:
	out.putText(text)
	return out.done(), true
}

// joiner puts pieces one behind the other; texts that come together become one.
type joiner struct {
	out  []api.Piece
	text []byte // the text that may go on, so that long ones are not copied at each step
}

func (j *joiner) put(p api.Piece) {
	if p.Kind == api.PiText {
		j.putText(p.Text)
		return
	}
	j.endText()
	j.out = append(j.out, p)
}

func (j *joiner) putText(s string) { j.text = append(j.text, s...) }

func (j *joiner) endText() {
	if len(j.text) > 0 {
		j.out = append(j.out, api.Piece{Kind: api.PiText, Text: string(j.text)})
		j.text = j.text[:0]
	}
}

func (j *joiner) done() []api.Piece {
	j.endText()
	return j.out
}

// Plain returns the texts of a list, one behind the other.
func Plain(l []api.Piece) string {
	var out strings.Builder
	for _, p := range l {
		if p.Kind == api.PiText {
			out.WriteString(p.Text)
		}
	}
	return out.String()
}

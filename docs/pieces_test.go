package docs_test

import (
	"slices"
	"strings"
	"testing"

	"truchman/api"
	"truchman/docs"
)

// Tests of P1.1.

// lists are lists of pieces with what CheckPieces says of them.
type lists map[string]struct {
	l    []api.Piece
	want api.Errno
}

func (all lists) check(t *testing.T) {
	t.Helper()
	for name, x := range all {
		if e := docs.CheckPieces(x.l); e != x.want {
			t.Errorf("%s: error %d, want %d", name, e, x.want)
		}
	}
}

func TestCheckPieces(t *testing.T) {
	lists{
		"nil":                   {nil, api.OK},
		"empty":                 {pieces(), api.OK},
		"all kinds":             {pieces(text("a"), open("b"), gap("n"), shut("b"), lone("br"), text("c")), api.OK},
		"carried both":          {pieces(carried(open("b")), carried(open("i")), text("a"), carried(shut("i")), carried(shut("b"))), api.OK},
		"carried, closed here":  {pieces(carried(open("b")), text("a"), shut("b")), api.OK},
		"opened here, carried":  {pieces(open("b"), text("a"), carried(shut("b"))), api.OK},
		"carried without text":  {pieces(carried(open("b")), carried(shut("b"))), api.OK},
		"same tag inside":       {pieces(open("b"), open("b"), shut("b"), shut("b")), api.OK},
		"texts apart":           {pieces(text("a"), lone("br"), text("b")), api.OK},
		"most pieces":           {repeat(api.MaxPieces, gap("n")), api.OK},
		"too many pieces":       {repeat(api.MaxPieces+1, gap("n")), api.ErrLimit},
		"too many, and crooked": {repeat(api.MaxPieces+1, api.Piece{}), api.ErrLimit},
	}.check(t)
}

func TestCheckKinds(t *testing.T) {
	lists{
		"no kind":                {pieces(api.Piece{Text: "a"}), api.ErrArg},
		"kind 6":                 {pieces(api.Piece{Kind: 6, Text: "a"}), api.ErrArg},
		"kind 255":               {pieces(api.Piece{Kind: 255}), api.ErrArg},
		"carried text":           {pieces(carried(text("a"))), api.ErrArg},
		"carried empty tag":      {pieces(carried(lone("b"))), api.ErrArg},
		"carried hole":           {pieces(carried(gap("n"))), api.ErrArg},
		"carried text, no text":  {pieces(carried(text(""))), api.ErrArg},
		"carried hole, no name":  {pieces(carried(gap(""))), api.ErrArg},
		"no kind behind a close": {pieces(open("b"), carried(shut("b")), api.Piece{}), api.ErrArg},
	}.check(t)
}

func TestCheckTexts(t *testing.T) {
	lists{
		"no text":             {pieces(text("")), api.ErrForm},
		"tab":                 {pieces(text("a\tb")), api.ErrForm},
		"line feed":           {pieces(text("\n")), api.ErrForm},
		"rune 31":             {pieces(text("\x1f")), api.ErrForm},
		"rune 0":              {pieces(text("\x00")), api.ErrForm},
		"rune 127":            {pieces(text("a\x7f")), api.ErrForm},
		"no UTF-8":            {pieces(text("a\xff")), api.ErrForm},
		"half a rune":         {pieces(text("\xc3")), api.ErrForm},
		"surrogate":           {pieces(text("\xed\xa0\x80")), api.ErrForm},
		"rune 32":             {pieces(text(" ")), api.OK},
		"rune 126":            {pieces(text("~")), api.OK},
		"rune 128":            {pieces(text("\u0080")), api.OK},
		"replacement rune":    {pieces(text("\ufffd")), api.OK},
		"any marks":           {pieces(text("<>{}\\/")), api.OK},
		"neighbours":          {pieces(text("a"), text("b")), api.ErrForm},
		"form ahead of state": {pieces(open("b"), text("x"), carried(shut("b")), text("")), api.ErrForm},
	}.check(t)
}

func TestCheckNames(t *testing.T) {
	long := strings.Repeat("a", api.MaxTagName)
	lists{
		"no name":               {pieces(open("")), api.ErrName},
		"great letter":          {pieces(shut("B")), api.ErrName},
		"great letter in":       {pieces(lone("bR")), api.ErrName},
		"digit first":           {pieces(gap("1")), api.ErrName},
		"dash first":            {pieces(gap("-a")), api.ErrName},
		"low line":              {pieces(lone("a_b")), api.ErrName},
		"blank in a name":       {pieces(lone("a b")), api.ErrName},
		"letter above 127":      {pieces(gap("é")), api.ErrName},
		"digits and dashes":     {pieces(gap("a-1-"), lone("h1"), gap("z9z-0")), api.OK},
		"other bytes in a name": {pieces(gap("a/"), gap("n")), api.ErrName},
		"a colon in a name":     {pieces(gap("a:")), api.ErrName},
		"a low quote first":     {pieces(gap("`")), api.ErrName},
		"a brace first":         {pieces(gap("{")), api.ErrName},
		"longest name":          {pieces(gap(long)), api.OK},
		"name too long":         {pieces(gap(long + "a")), api.ErrName},
		"name ahead of state":   {pieces(text("a"), carried(open("B"))), api.ErrName},
		"name ahead of scope":   {pieces(shut("1")), api.ErrName},
	}.check(t)
}

func TestCheckCarried(t *testing.T) {
	lists{
		"carried behind text":          {pieces(text("a"), carried(open("b")), shut("b")), api.ErrState},
		"carried behind a hole":        {pieces(gap("n"), carried(open("b")), shut("b")), api.ErrState},
		"carried behind an open":       {pieces(open("a"), carried(open("b")), shut("b"), shut("a")), api.ErrState},
		"carried behind an empty":      {pieces(lone("a"), carried(open("b")), shut("b")), api.ErrState},
		"carried behind a close":       {pieces(carried(open("a")), shut("a"), carried(open("b")), shut("b")), api.ErrState},
		"carried opens torn apart":     {pieces(carried(open("a")), text("x"), carried(open("b")), shut("b"), shut("a")), api.ErrState},
		"text behind a carried close":  {pieces(open("b"), carried(shut("b")), text("x")), api.ErrState},
		"hole behind a carried close":  {pieces(open("b"), carried(shut("b")), gap("n")), api.ErrState},
		"open behind a carried close":  {pieces(open("b"), carried(shut("b")), open("b"), shut("b")), api.ErrState},
		"carried open behind one":      {pieces(open("b"), carried(shut("b")), carried(open("b")), shut("b")), api.ErrState},
		"close behind a carried close": {pieces(open("a"), open("b"), carried(shut("b")), shut("a")), api.ErrState},
		"state ahead of scope":         {pieces(open("a"), open("b"), carried(shut("b")), shut("c")), api.ErrState},
		"state ahead of limit":         {append(repeat(16, open("b")), carried(open("b"))), api.ErrState},
	}.check(t)
}

func TestCheckNesting(t *testing.T) {
	deep := func(n int) []api.Piece { return append(repeat(n, open("b")), repeat(n, shut("b"))...) }
	lists{
		"close alone":          {pieces(shut("b")), api.ErrScope},
		"carried close alone":  {pieces(text("a"), carried(shut("b"))), api.ErrScope},
		"other name":           {pieces(open("b"), shut("i")), api.ErrScope},
		"crossed":              {pieces(open("b"), open("i"), shut("b"), shut("i")), api.ErrScope},
		"closed twice":         {pieces(open("b"), shut("b"), shut("b")), api.ErrScope},
		"never closed":         {pieces(open("b"), text("a")), api.ErrScope},
		"carried, not closed":  {pieces(carried(open("b")), text("a")), api.ErrScope},
		"scope, then no kind":  {pieces(shut("b"), api.Piece{}), api.ErrScope},
		"no kind, then scope":  {pieces(open("b"), api.Piece{}), api.ErrArg},
		"deepest":              {deep(api.MaxTags), api.OK},
		"too deep":             {deep(api.MaxTags + 1), api.ErrLimit},
		"too deep, not closed": {repeat(api.MaxTags+1, open("b")), api.ErrLimit},
		"deep twice":           {append(deep(api.MaxTags), deep(api.MaxTags)...), api.OK},
	}.check(t)
}

func TestWriteAndRead(t *testing.T) {
	for _, x := range []struct {
		s string
		l []api.Piece
	}{
		{"", nil},
		{`a \<b> <b>x</b>{n}`, pieces(text("a <b> "), open("b"), text("x"), shut("b"), gap("n"))},
		{`\\\<\{`, pieces(text(`\<{`))},
		{"> } / +", pieces(text("> } / +"))},
		{"<+b><+i>x</i></+b>", pieces(carried(open("b")), carried(open("i")), text("x"), shut("i"), carried(shut("b")))},
		{"a<br/>b", pieces(text("a"), lone("br"), text("b"))},
		{"{a}{b-2}", pieces(gap("a"), gap("b-2"))},
		{`\<b/>é日`, pieces(text("<b/>é日"))},
		{`{n}}>`, pieces(gap("n"), text("}>"))},
		{" ", pieces(text(" "))},
		{" !\"#$%&'()*+,-./09:;\\<=>?@AZ[\\\\]^_`az\\{|}~\u0080", pieces(text(" !\"#$%&'()*+,-./09:;<=>?@AZ[\\]^_`az{|}~\u0080"))},
		{"{az-09}", pieces(gap("az-09"))},
	} {
		if s := written(t, x.l); s != x.s {
			t.Errorf("Write(%v): %q, want %q", x.l, s, x.s)
		}
		if l := read(t, x.s); !slices.Equal(l, x.l) {
			t.Errorf("Read(%q): %v, want %v", x.s, l, x.l)
		}
	}
}

func TestWriteErrors(t *testing.T) {
	for e, l := range crooked() {
		if s, f := docs.Write(l); f != e || s != "" {
			t.Errorf("Write(%v): %q, error %d, want %d", l, s, f, e)
		}
	}
	for _, x := range []struct {
		l []api.Piece
		e api.Errno
	}{
		{pieces(text(strings.Repeat("a", api.MaxText))), api.OK},
		{pieces(text(strings.Repeat("a", api.MaxText+1))), api.ErrLimit},
		{pieces(text(strings.Repeat("{", api.MaxText/2))), api.OK},
		{pieces(text(strings.Repeat(`\`, api.MaxText/2) + "a")), api.ErrLimit},
		{pieces(text(strings.Repeat("a", api.MaxText-3)), gap("n")), api.OK},
		{pieces(text(strings.Repeat("a", api.MaxText-2)), gap("n")), api.ErrLimit},
		{pieces(text(strings.Repeat("a", api.MaxText+1)), open("b")), api.ErrScope},
	} {
		if s, e := docs.Write(x.l); e != x.e || (s == "") != (e != api.OK) {
			t.Errorf("a list of %d pieces, %d bytes: error %d, want %d", len(x.l), len(x.l[0].Text), e, x.e)
		}
	}
}

func TestReadErrors(t *testing.T) {
	for s, want := range map[string]api.Errno{
		"<":                                  api.ErrForm,
		"<b":                                 api.ErrForm,
		"<>":                                 api.ErrForm,
		"</>":                                api.ErrForm,
		"<+>":                                api.ErrForm,
		"<b />":                              api.ErrForm,
		"< b>":                               api.ErrForm,
		"<+b/>":                              api.ErrForm,
		"</b/>":                              api.ErrForm,
		"<+/b>":                              api.ErrForm,
		"<B></B>":                            api.ErrForm,
		"<b<i></i>":                          api.ErrForm,
		"{":                                  api.ErrForm,
		"{}":                                 api.ErrForm,
		"{n":                                 api.ErrForm,
		"{N}":                                api.ErrForm,
		"{+n}":                               api.ErrForm,
		"{n>}":                               api.ErrForm,
		"<n}":                                api.ErrForm,
		"{n>":                                api.ErrForm,
		`\`:                                  api.ErrForm,
		`\a`:                                 api.ErrForm,
		`\>`:                                 api.ErrForm,
		`\}`:                                 api.ErrForm,
		`a\\\`:                               api.ErrForm,
		"a\nb":                               api.ErrForm,
		"a\x7f":                              api.ErrForm,
		"a\xff":                              api.ErrForm,
		"{n\x00}":                            api.ErrForm,
		"<" + strings.Repeat("a", 17) + "/>": api.ErrForm,
		"<" + strings.Repeat("a", 16) + "/>": api.OK,

		"<b>x":                                 api.ErrScope,
		"</b>":                                 api.ErrScope,
		"<b><i></b></i>":                       api.ErrScope,
		"x<+b>y</b>":                           api.ErrState,
		"<b></+b>x":                            api.ErrState,
		"<b></b>\\":                            api.ErrForm,
		"</b>\\":                               api.ErrForm,
		"x<+b>y</b><B/>":                       api.ErrForm,
		strings.Repeat("{n}", api.MaxPieces):   api.OK,
		strings.Repeat("{n}", api.MaxPieces+1): api.ErrLimit,
		strings.Repeat("{n}", api.MaxPieces+1) + "{":           api.ErrForm,
		strings.Repeat("<b>", 16) + strings.Repeat("</b>", 16): api.OK,
		strings.Repeat("<b>", 17) + strings.Repeat("</b>", 17): api.ErrLimit,
		strings.Repeat("a", api.MaxText):                       api.OK,
		strings.Repeat("a", api.MaxText+1):                     api.ErrLimit,
		strings.Repeat("\n", api.MaxText+1):                    api.ErrLimit,
	} {
		if l, e := docs.Read(s); e != want || e != api.OK && l != nil {
			t.Errorf("Read(%.40q): %d pieces, error %d, want %d", s, len(l), e, want)
		}
	}
}

func TestPlain(t *testing.T) {
	for want, l := range map[string][]api.Piece{
		"":         nil,
		"a <b> x":  pieces(text("a <b> "), open("b"), text("x"), shut("b"), gap("n")),
		"ab":       pieces(text("a"), text("b")),
		"\x00\xff": pieces(api.Piece{Kind: 9, Text: "q"}, carried(text("\x00\xff")), open("!")),
	} {
		if s := docs.Plain(l); s != want {
			t.Errorf("Plain(%v): %q, want %q", l, s, want)
		}
	}
	if s := docs.Plain(repeat(2*api.MaxPieces, text("x"))); len(s) != 2*api.MaxPieces {
		t.Errorf("a long list: %d bytes", len(s))
	}
}

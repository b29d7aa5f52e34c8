package docs_test

import (
	"reflect"
	"strings"
	"testing"

	"truchman/api"
	"truchman/docs"
)

// Tests of P1.2.

func document(l ...api.Block) api.Document { return api.Document{Blocks: l} }

func block(k api.BlockKind, l ...api.Piece) api.Block { return api.Block{Kind: k, Pieces: l} }

// blocks returns n paragraphs without pieces.
func blocks(n int) []api.Block {
	out := make([]api.Block, n)
	for i := range out {
		out[i].Kind = api.BlPara
	}
	return out
}

func TestCheck(t *testing.T) {
	for name, x := range map[string]struct {
		d    api.Document
		want api.Errno
	}{
		"nothing":              {document(), api.OK},
		"all kinds":            {document(block(api.BlH1), block(api.BlH2), block(api.BlH3), block(api.BlPara), block(api.BlItem), block(api.BlRaw)), api.OK},
		"raw text":             {document(block(api.BlRaw, text("<b>{n}"))), api.OK},
		"most blocks":          {document(blocks(api.MaxBlocks)...), api.OK},
		"too many":             {document(blocks(api.MaxBlocks + 1)...), api.ErrLimit},
		"too many, crooked":    {document(make([]api.Block, api.MaxBlocks+1)...), api.ErrLimit},
		"no kind":              {document(block(api.BlNone)), api.ErrArg},
		"kind 7":               {document(block(7)), api.ErrArg},
		"kind 255":             {document(block(255)), api.ErrArg},
		"kind ahead of pieces": {document(block(7, open("b"))), api.ErrArg},
		"carried":              {document(block(api.BlPara, carried(open("b")), shut("b"))), api.ErrState},
		"closed for now":       {document(block(api.BlH1, open("b"), carried(shut("b")))), api.ErrState},
		"raw with a hole":      {document(block(api.BlRaw, gap("n"))), api.ErrArg},
		"raw with a tag":       {document(block(api.BlRaw, text("x"), lone("br"))), api.ErrArg},
		"raw, carried":         {document(block(api.BlRaw, carried(open("b")), shut("b"))), api.ErrState},
		"raw, not closed":      {document(block(api.BlRaw, open("b"))), api.ErrScope},
		"first block decides":  {document(block(api.BlPara, open("b")), block(api.BlNone)), api.ErrScope},
	} {
		if e := docs.Check(x.d); e != x.want {
			t.Errorf("%s: error %d, want %d", name, e, x.want)
		}
		if s, e := docs.Print(x.d); e != x.want || e != api.OK && s != "" {
			t.Errorf("%s: Print: %q, error %d, want %d", name, s, e, x.want)
		}
	}
	for e, l := range crooked() {
		if f := docs.Check(document(block(api.BlPara), block(api.BlRaw, l...))); f != e {
			t.Errorf("%v: error %d, want %d", l, f, e)
		}
	}
}

func TestPrintAndParse(t *testing.T) {
	for _, x := range []struct {
		s string
		d api.Document
	}{
		{"", document()},
		{"p \n", document(block(api.BlPara))},
		{"h1 a\nh2 b\nh3 c\np d\nli e\nraw f\n", document(block(api.BlH1, text("a")), block(api.BlH2, text("b")), block(api.BlH3, text("c")), block(api.BlPara, text("d")), block(api.BlItem, text("e")), block(api.BlRaw, text("f")))},
		{"p  a \n", document(block(api.BlPara, text(" a ")))},
		{"li p x\n", document(block(api.BlItem, text("p x")))},
		{"raw \\<b>\\{n}\n", document(block(api.BlRaw, text("<b>{n}")))},
		{"p <b>x</b>{n}<br/>\n", document(block(api.BlPara, open("b"), text("x"), shut("b"), gap("n"), lone("br")))},
	} {
		if s := printed(t, x.d); s != x.s {
			t.Errorf("Print: %q, want %q", s, x.s)
		}
		if d := parse(t, x.s); !docs.Same(d, x.d) {
			t.Errorf("Parse(%q): %v, want %v", x.s, d, x.d)
		}
	}
}

func TestPrintLimit(t *testing.T) {
	half := strings.Repeat("a", api.MaxText/2-3)
	d := document(block(api.BlPara, text(half)), block(api.BlPara, text(half)))
	if s := printed(t, d); len(s) != api.MaxText {
		t.Errorf("%d bytes", len(s))
	}
	d.Blocks[1].Pieces[0].Text += "a"
	if s, e := docs.Print(d); e != api.ErrLimit || s != "" {
		t.Errorf("%d bytes, error %d", len(s), e)
	}
}

func TestParseErrors(t *testing.T) {
	many := strings.Repeat("p \n", api.MaxBlocks)
	for s, want := range map[string]struct {
		line int
		e    api.Errno
	}{
		"p":                      {0, api.ErrForm},
		"p\n":                    {0, api.ErrForm},
		"p a":                    {0, api.ErrForm},
		"\n":                     {0, api.ErrForm},
		" \n":                    {0, api.ErrForm},
		" p a\n":                 {0, api.ErrForm},
		"P a\n":                  {0, api.ErrForm},
		"h4 a\n":                 {0, api.ErrForm},
		"pp a\n":                 {0, api.ErrForm},
		"p\ta\n":                 {0, api.ErrForm},
		"p a\n\n":                {1, api.ErrForm},
		"p a\np b\nq c\np <b>\n": {2, api.ErrForm},
		"p a\r\n":                {0, api.ErrForm},
		"p a\np <b>\nq\n":        {1, api.ErrScope},
		"p <b>":                  {0, api.ErrForm},
		"p <B>\n":                {0, api.ErrForm},
		"p \xff\n":               {0, api.ErrForm},
		"h1 x\np <+b>x</b>\n":    {1, api.ErrState},
		"p x<+b>x</b>\n":         {0, api.ErrState},
		"p <b>x</+b>\n":          {0, api.ErrState},
		"raw {n}\n":              {0, api.ErrArg},
		"p \nraw x<br/>\n":       {1, api.ErrArg},
		"raw <+b></b>\n":         {0, api.ErrState},
		"raw <b>\n":              {0, api.ErrScope},
		"p " + strings.Repeat("{n}", api.MaxPieces+1) + "\n": {0, api.ErrLimit},
		many:                               {0, api.OK},
		many + "p \n":                      {api.MaxBlocks, api.ErrLimit},
		many + "q":                         {api.MaxBlocks, api.ErrLimit},
		many[:len(many)-1]:                 {api.MaxBlocks - 1, api.ErrForm},
		"q\n" + many:                       {0, api.ErrForm},
		strings.Repeat("q", api.MaxText+1): {0, api.ErrLimit},
		"p " + strings.Repeat("a", api.MaxText-3) + "\n":     {0, api.OK},
		"p " + strings.Repeat("a", api.MaxText-2) + "\n":     {0, api.ErrLimit},
		many + strings.Repeat("\n", api.MaxText-len(many)+1): {0, api.ErrLimit},
	} {
		d, line, e := docs.Parse(s)
		if line != want.line || e != want.e || e != api.OK && d.Blocks != nil {
			t.Errorf("Parse(%.40q): %d blocks, line %d, error %d, want line %d, error %d", s, len(d.Blocks), line, e, want.line, want.e)
		}
	}
}

func TestSame(t *testing.T) {
	base := func() api.Document {
		return document(block(api.BlPara, open("b"), text("x"), shut("b")), block(api.BlRaw))
	}
	if !docs.Same(base(), base()) || !docs.Same(document(), api.Document{Blocks: []api.Block{}}) {
		t.Error("equal documents differ")
	}
	if !docs.Same(document(block(9, carried(text("\xff")))), document(block(9, carried(text("\xff"))))) {
		t.Error("equal invalid documents differ")
	}
	empty := base()
	empty.Blocks[1].Pieces = []api.Piece{}
	if !docs.Same(base(), empty) {
		t.Error("no pieces, twice, differ")
	}
	for name, change := range map[string]func(*api.Document){
		"no blocks":   func(d *api.Document) { d.Blocks = nil },
		"less blocks": func(d *api.Document) { d.Blocks = d.Blocks[:1] },
		"more blocks": func(d *api.Document) { d.Blocks = append(d.Blocks, block(api.BlPara)) },
		"block kind":  func(d *api.Document) { d.Blocks[1].Kind = api.BlItem },
		"less pieces": func(d *api.Document) { d.Blocks[0].Pieces = d.Blocks[0].Pieces[:2] },
		"more pieces": func(d *api.Document) { d.Blocks[1].Pieces = pieces(text("")) },
		"piece kind":  func(d *api.Document) { d.Blocks[0].Pieces[1].Kind = api.PiHole },
		"text":        func(d *api.Document) { d.Blocks[0].Pieces[1].Text = "y" },
		"carried":     func(d *api.Document) { d.Blocks[0].Pieces[0].Carried = true },
	} {
		d := base()
		change(&d)
		if docs.Same(d, base()) || docs.Same(base(), d) {
			t.Errorf("%s: a change is not seen", name)
		}
	}
}

// What a call returns is new memory, and no argument is changed.
func TestMemory(t *testing.T) {
	d := parse(t, "p <b>One. Two</b> a\nraw x\n")
	before := parse(t, "p <b>One. Two</b> a\nraw x\n")
	l := d.Blocks[0].Pieces
	spoil := func(l []api.Piece) {
		for i := range l[:cap(l)] {
			l[:cap(l)][i] = api.Piece{Kind: 77}
		}
	}
	parts, _ := docs.Cut(l, []int{5})
	keep := writtenAll(t, parts)
	spoil(parts[0])
	if s := written(t, parts[1]); s != keep[1] {
		t.Errorf("the parts share memory: %q", s)
	}
	whole, _ := docs.Cut(l, nil)
	spoil(whole[0])
	glued, _ := docs.Glue([][]api.Piece{l})
	spoil(glued)
	segments, _ := docs.Segments(d, nil)
	restored, _ := docs.Restore(d, segments)
	for _, b := range restored.Blocks {
		spoil(b.Pieces)
	}
	for _, s := range segments {
		spoil(s.Pieces)
	}
	projected, _ := docs.Project(l, []string{"Un", ".", "Deux"}, ties("00 12"))
	spoil(projected)
	if !reflect.DeepEqual(d, before) {
		t.Errorf("an argument was changed: %v", d)
	}
}

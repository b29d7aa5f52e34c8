package desk_test

import (
	"fmt"
	"math/rand/v2"
	"slices"
	"strings"
	"testing"

	"truchman/api"
	"truchman/desk"
	"truchman/docs"
)

// Tests of P10.1 to P10.5, P0.1, P0.6, P0.7 and P0.9, with many commands that a seed makes. What package desk answers is held against what the chapter says, worked out in the plainest way.

// maker makes commands for a plain desk, often ones without an error.
type maker struct {
	r *rand.Rand
	p *plain
}

// of returns some name of a kind, seldom one of another kind or one that is not there.
func (m maker) of(kind string) string {
	if m.r.IntN(30) == 0 {
		return pick(m.r, "L", "S", "O", "nope", "1", "a-b", "O1")
	}
	var l []string
	for _, name := range m.p.names {
		if m.p.kinds[name] == kind {
			l = append(l, name)
		}
	}
	if len(l) > 3 && m.r.IntN(4) > 0 { // these are worked on most
		l = l[:3]
	}
	return pick(m.r, append(l, "nope")[:max(1, len(l))]...)
}

// fresh returns a name that is seldom there.
func (m maker) fresh() string {
	if m.r.IntN(12) == 0 {
		return pick(m.r, "L", "S", "M", "B", "R", "C", "O", "1", "")
	}
	return pick(m.r, "A", "B", "X", "lexicon") + fmt.Sprint(m.r.IntN(40))
}

func (m maker) sentence() string {
	return pick(m.r,
		theWords, "the dog see the red cat", "the red cats see the dogs", "the dog", "the red cat", "dog see", "the dogs see the dog .", "", "see",
		"the dog see", "the the", "größe", "the dog see the cat", "the red cat see the red cat . .",
	)
}

// content makes a part of a document.
func (m maker) content() string {
	np := func() string {
		return pick(m.r, "the dog", "the <b>dog</b>", "<i>the dogs</i>", "the <b>red</b> cat", "<b>the red cats</b>", "the <i>red <b>cat</b></i>", "the red<x/> cat", "the dog<x/>")
	}
	s := np() + pick(m.r, " see ", " see ", " <u>see</u> ", " sees ") + np() + pick(m.r, "", "", ".", " ")
	if m.r.IntN(2) == 0 {
		s = strings.Replace(s, "the", "The", 1)
	}
	return pick(m.r, s, s, s, s, s, s, "<b>"+s+"</b>", np(), "x", "{n}", "größe", "")
}

func (m maker) document() string {
	var out strings.Builder
	for range 1 + m.r.IntN(3) {
		out.WriteString(pick(m.r, "p ", "p ", "h1 ", "li ", "raw x\np "))
		for range 1 + m.r.IntN(3) {
			out.WriteString(m.content() + " ")
		}
		out.WriteString("\n")
	}
	if m.r.IntN(20) == 0 {
		out.WriteString(pick(m.r, "x\n", "p <b>\n", "\n", strings.Repeat("p \n", 129)))
	}
	return out.String()
}

// changed makes a document that has much of another one.
func (m maker) changed(o api.Office) string {
	s, _ := docs.Print(o.Source)
	l := slices.Collect(strings.Lines(s))
	switch m.r.IntN(4) {
	case 0:
		m.r.Shuffle(len(l), func(i, j int) { l[i], l[j] = l[j], l[i] })
	case 1:
		l = append(l, "p "+m.content()+"\n")
	case 2:
		l = l[m.r.IntN(len(l)+1):]
	case 3:
		return m.document()
	}
	return strings.Join(l, "")
}

// command makes a command.
func (m maker) command() string {
	n := m.r.IntN(100)
	switch {
	case n < 5:
		return m.making()
	case n < 14:
		return "translate " + strings.TrimSuffix(m.of("SYSTEM")+" "+m.of("MODEL")+" "+m.sentence(), " ")
	case n < 17:
		return "analyze " + m.of("LEXICON") + " " + pick(m.r, "dog", "dogs", "catdog", "catsdog", "hunde", "rot", "größe", "x")
	case n < 22:
		return "test " + m.of("CHECKS") + " " + m.of("OFFICE") + " " + pick(m.r, "de", "de", "fr", "it")
	case n < 25:
		return "issues " + m.of("TERMS") + " " + m.of("OFFICE") + " " + pick(m.r, "de", "fr") + " " + pick(m.r, "-", "zoo", "it", "x") + " " + pick(m.r, "en", "1") + " " + m.of("LEXICON") + " " + m.of("LEXICON")
	case n < 28:
		return "show " + m.of("OFFICE") + " " + pick(m.r, "de", "fr", "it")
	case n < 29:
		return pick(m.r, "verify", "verify\n", "verify x", "", "x", "verify\n|", " verify")
	case n < 34:
		return "merge " + m.fresh() + " " + m.of("OFFICE") + " " + m.of("OFFICE") + " " + m.of("OFFICE")
	case n < 37:
		o := m.of("OFFICE")
		return text("source "+o, m.changed(m.p.offices[o]))
	case n < 40:
		return "copy " + m.fresh() + " " + m.of("OFFICE")
	case n < 42:
		return pick(m.r, "lang ", "lang ", "person ") + m.of("OFFICE") + pick(m.r, " fr", " it", " D", " eve de reviewer", " ann fr translator", " bob fr reviewer", " ann de x")
	}
	return m.inCell()
}

// making makes a command that makes something by a body, which may be wrong.
func (m maker) making() string {
	switch m.r.IntN(7) {
	case 0:
		return text("lexicon "+m.fresh(), pick(m.r, englishText, germanText, lettersText, "x", ""))
	case 1:
		return text("system "+m.fresh()+" "+m.of("LEXICON")+" "+m.of("LEXICON"), pick(m.r, rulesText, "start S\n", swapText, ""))
	case 2:
		return text("model "+m.fresh(), pick(m.r, "der hund\nder katz\n", "\n", "", "a  b\n", "der rot hunde sehen der hund\n", "größe\n"))
	case 3:
		return text("terms "+m.fresh(), pick(m.r, termsText, "", "domain x\n", "x\n"))
	case 4:
		return text("rules "+m.fresh(), pick(m.r, breaksText, "break \"%s\" \"%u\"\n", "", "x\n", "keep \"%\" \"\"\n", "break \"a\" \"b\" \n"))
	case 5:
		return text("checks "+m.fresh(), pick(m.r, checksText, "tags 3 tags(source) ~ tags(target)\n", "a 1 1 == 2\na 1 1 == 1\n", "a 1\n", "a 2000 1 == 1\n", ""))
	}
	return text("office "+m.fresh()+" "+m.of("RULES"), m.document())
}

// inCell makes a command that does something in a cell, often what may be done there.
func (m maker) inCell() string {
	name := m.of("OFFICE")
	o := m.p.offices[name]
	segments, _ := docs.Segments(o.Source, o.Rules)
	lang, i := pick(m.r, append(slices.Clone(o.Langs), "de")...), min(m.r.IntN(len(segments)+1), m.r.IntN(len(segments)+1))
	if m.r.IntN(12) == 0 || !slices.Contains(o.Langs, lang) || i == len(segments) {
		first := pick(m.r, "lock", "free", "approve", "reject", "reopen", "edit", "draft", "pick") + " " + name + " " + pick(m.r, "ann", "bob", "cy", "eve") + " " + lang
		return text(first+pick(m.r, "", " 0", " 1", " 01", " 9", " 0 0", " 0 S M"), pick(m.r, "", "", "x\n", "x\ny\n"))
	}
	c := o.Cells[slices.Index(o.Langs, lang)][i]
	cell := fmt.Sprint(" ", lang, " ", i)
	if c.Lock == "" {
		if c.State == api.CeDraft && m.r.IntN(3) > 0 {
			return pick(m.r, "approve ", "approve ", "reject ") + name + " " + pick(m.r, "bob", "bob", "cy") + cell
		}
		if c.State != api.CeEmpty && m.r.IntN(3) == 0 {
			return "reopen " + name + " bob" + cell
		}
		return "lock " + name + " " + pick(m.r, "ann", "cy") + cell
	}
	switch m.r.IntN(5) {
	case 0, 1:
		return "draft " + name + " " + c.Lock + cell + " " + m.of("SYSTEM") + " " + m.of("MODEL")
	case 2:
		l := slices.Clone(segments[i].Pieces)
		for j := range l {
			if l[j].Kind == api.PiText {
				l[j].Text = pick(m.r, "a", "der hund", "hunde sehen!", "rot|")
			}
		}
		s, _ := docs.Write(l)
		return text("edit "+name+" "+c.Lock+cell, s+"\n")
	case 3:
		return fmt.Sprint("pick ", name, " ", c.Lock, cell, " ", m.r.IntN(len(c.Others)+1))
	}
	return "free " + name + " " + c.Lock + cell
}

// beginnings are the commands with which each desk begins.
func (m maker) beginnings() []string {
	l := []string{
		text("lexicon L", englishText), text("lexicon T", germanText), text("model M", "der hund der hunde sehen\n"), text("terms B", termsText),
		text("system S L T", rulesText+"rule S 0\ncat S\nsource 1 =.\ntarget 1 =.\n"), text("rules R", pick(m.r, breaksText, "break \"%s\" \"%u\"\n")),
		text("checks C", checksText+"tags 1 tags(source) ~ tags(target)\n"), text("office O R", m.document()),
		"lang O de", "person O ann de translator", "person O cy de translator", "person O cy de reviewer", "person O bob de reviewer",
	}
	if m.r.IntN(4) == 0 {
		l[4] = strings.Replace(l[4], "start S", "start NP", 1)
	}
	return append(l, "copy E O", "copy P O")
}

// P10.2, P10.5: desks hold what the plainest way says, all the time. P10.3: all certificates hold.
func TestScripts(t *testing.T) {
	r := dice()
	oks, errors, proofs := map[string]int{}, map[string]int{}, 0
	for range 100 {
		p := newPlain()
		m := maker{r, p}
		d, twin := desk.New(), desk.New()
		commands := m.beginnings()
		var answers []string
		for i := 0; i < 110; i++ {
			if i >= len(commands) {
				commands = append(commands, m.command())
			}
			s := commands[i]
			want, e := p.do(s)
			before := ""
			looked := e != api.OK && i%4 == 0 // it takes time
			if looked {
				before = told(d)
			}
			answer, got := d.Do(s)
			if got != e || answer != want {
				t.Fatalf("%s\n%q, error %d, want %q, error %d", s, answer, got, want, e)
			}
			if looked && told(d) != before {
				t.Fatalf("%s: changed", s)
			}
			if again, e := twin.Do(s); again != answer || e != got {
				t.Fatalf("%s: %q, error %d, of a twin", s, again, e)
			}
			kind, _, _ := strings.Cut(s, " ")
			if e != api.OK {
				errors[kind]++
				answer = fmt.Sprint("error ", int(e))
			} else {
				oks[kind]++
			}
			answers = append(answers, answer)
		}
		alike(t, d, p)
		for _, c := range d.Proofs() {
			proofs++
			if e := desk.Verify(c); e != api.OK {
				t.Fatalf("%+v: error %d", c, e)
			}
		}
		rerun(t, commands, answers, len(p.proofs))
	}
	for _, form := range plainForms {
		kind, _, _ := strings.Cut(form, " ")
		if oks[kind] < 10 || errors[kind] < 10 && kind != "verify" {
			t.Errorf("%s: %d without an error, %d with one", kind, oks[kind], errors[kind])
		}
	}
	if proofs < 500 {
		t.Error("few certificates:", proofs)
	}
}

// alike holds a desk against a plain one.
func alike(t *testing.T, d *desk.Desk, p *plain) {
	t.Helper()
	if !slices.Equal(d.Names(), p.names) {
		t.Fatal(d.Names(), p.names)
	}
	if got, want := shown(d.Proofs()), shown(p.proofs); got != want {
		t.Fatalf("%s\n%s", got, want)
	}
	for _, name := range p.names {
		o, ok := d.Office(name)
		if want, is := p.offices[name]; ok != is || shown(o) != shown(want) {
			t.Fatalf("%s: %+v, want %+v", name, o, want)
		}
	}
}

// shown writes a value, a nil list as an empty one.
func shown(x any) string { return fmt.Sprintf("%+v", x) }

// rerun holds that Run of commands answers as a desk did. A command whose text has empty lines, or of which no first line is one, is left out.
func rerun(t *testing.T, commands, answers []string, proofs int) {
	t.Helper()
	var script, want []string
	for i, s := range commands {
		first, _, _ := strings.Cut(s, "\n")
		if strings.Contains(s, "\n\n") || strings.Contains(s, "\nx") || first == "" || strings.HasPrefix(first, "|") || strings.HasPrefix(first, "#") {
			continue
		}
		script, want = append(script, s, pick(dice(), "", "# x", "\n")), append(want, answers[i])
	}
	got, l, e := desk.Run(strings.Join(script, "\n"))
	if e != api.OK || len(l) != proofs || !slices.Equal(got, want) {
		t.Fatalf("%q, %d certificates, error %d", got, len(l), e)
	}
}

// P0.1: texts of any bytes, and commands with something of them changed.
func TestAnyTexts(t *testing.T) {
	r := dice()
	p := newPlain()
	m := maker{r, p}
	d := desk.New()
	for _, s := range m.beginnings() {
		if _, e := d.Do(s); e != api.OK {
			t.Fatal(s, e)
		}
		if _, e := p.do(s); e != api.OK {
			t.Fatal(s, e)
		}
	}
	all := "\x00\n\n\n\r\t   ||#\"\\<>{}%ab01AZO_-\x7f\x80\xff\xc3é"
	for range 20000 {
		b := []byte(m.command())
		for range r.IntN(4) {
			at := r.IntN(len(b) + 1)
			switch x := all[r.IntN(len(all))]; {
			case r.IntN(3) == 0:
				b = slices.Insert(b, at, x)
			case at == len(b):
			case r.IntN(2) == 0:
				b[at] = x
			default:
				b = slices.Delete(b, at, at+1)
			}
		}
		want, e := p.do(string(b))
		if answer, got := d.Do(string(b)); got != e || answer != want {
			t.Fatalf("%q: %q, error %d, want %q, error %d", b, answer, got, want, e)
		}
		if len(p.proofs) > 40 || len(p.names) == api.MaxNamed && r.IntN(20) == 0 { // from the beginning again
			alike(t, d, p)
			d, p = desk.New(), newPlain()
			m.p = p
			for _, s := range m.beginnings() {
				d.Do(s)
				p.do(s)
			}
		}
		if r.IntN(50) == 0 {
			desk.Run(string(b))
		}
	}
}

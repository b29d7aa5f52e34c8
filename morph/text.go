package morph

import (
	"slices"
	"strconv"
	"strings"

	"truchman/api"
)

// maxNumber is the greatest number of a line. What it may be in a lexicon, Check tells.
const maxNumber = 999

// wrongLine is what a line that goes wrong is left with.
const wrongLine = "a line is not of the form, or not at its place"

// lineRule is what a line of a kind looks like, where it may stand, and what it says.
type lineRule struct {
	words  int      // how many stand behind the kind, at least
	more   bool     // there may be more of them
	behind []string // the kinds that may stand right ahead; an empty one: it may be the first line
	take   func(l *api.Lexicon, words []string)
}

// lineRules returns the rules of lines, by their kinds.
func lineRules() map[string]lineRule {
	return map[string]lineRule{
		"vowels": {1, false, []string{""}, takeVowels},
		"trait":  {1, true, []string{"vowels", "trait"}, takeTrait},
		"class":  {1, false, []string{"vowels", "trait", "class", "slot"}, takeClass},
		"slot":   {3, true, []string{"class", "slot"}, takeSlot},
		"entry":  {2, true, []string{"vowels", "trait", "class", "slot", "entry", "form"}, takeEntry},
		"form":   {2, false, []string{"entry", "form"}, takeForm},
		"spell":  {4, false, []string{"vowels", "trait", "class", "slot", "entry", "form", "spell"}, takeSpell},
		"link":   {2, true, []string{"vowels", "trait", "class", "slot", "entry", "form", "spell", "link"}, takeLink},
	}
}

func takeVowels(l *api.Lexicon, words []string) { l.Vowels = readEmpty(words[0]) }

func takeTrait(l *api.Lexicon, words []string) {
	l.Traits = append(l.Traits, api.Trait{Name: words[0], Values: slices.Clone(words[1:])})
}

func takeClass(l *api.Lexicon, words []string) {
	l.Classes = append(l.Classes, api.Class{Name: words[0]})
}

func takeSlot(l *api.Lexicon, words []string) {
	c := &l.Classes[len(l.Classes)-1]
	c.Slots = append(c.Slots, api.Slot{
		Cut: readNumber(words[0]), Pre: readEmpty(words[1]), Add: readEmpty(words[2]), Feats: readFeats(words[3:]),
	})
}

func takeEntry(l *api.Lexicon, words []string) {
	l.Entries = append(l.Entries, api.Entry{Lemma: words[0], Class: words[1], Feats: readFeats(words[2:])})
}

func takeForm(l *api.Lexicon, words []string) {
	n := &l.Entries[len(l.Entries)-1]
	n.Forms = append(n.Forms, api.Irregular{Slot: readNumber(words[0]), Word: readEmpty(words[1])})
}

func takeSpell(l *api.Lexicon, words []string) {
	l.Spells = append(l.Spells, api.Spell{
		From: readEmpty(words[0]), To: readEmpty(words[1]), Left: readEmpty(words[2]), Right: readEmpty(words[3]),
	})
}

func takeLink(l *api.Lexicon, words []string) {
	l.Links = append(l.Links, api.Link{Class: words[0], Glue: readEmpty(words[1]), Feats: readFeats(words[2:])})
}

// writeEmpty returns how a string is written, which may be empty.
func writeEmpty(s string) string {
	if s == "" {
		return "-"
	}
	return s
}

// readEmpty returns the string of which word is how it is written.
func readEmpty(word string) string {
	if word == "-" {
		return ""
	}
	return word
}

// readNumber leaves the line if word is no number of a line.
func readNumber(word string) int {
	n, err := strconv.Atoi(word)
	if err != nil || n < 0 || n > maxNumber || strconv.Itoa(n) != word {
		panic(wrongLine)
	}
	return n
}

// readFeats leaves the line if one of the words is no feature.
func readFeats(words []string) []api.Feat {
	var out []api.Feat
	for _, w := range words {
		name, value, _ := strings.Cut(w, "=")
		if name == "" || value == "" || strings.Contains(value, "=") {
			panic(wrongLine)
		}
		out = append(out, api.Feat{Name: name, Value: value})
	}
	return out
}

// Parse reads the text of a lexicon.
func Parse(text string) (l api.Lexicon, line int, e api.Errno) {
	if len(text) > api.MaxText {
		return api.Lexicon{}, 0, api.ErrLimit
	}
	l, line, ok := readLines(text)
	if !ok {
		return api.Lexicon{}, line, api.ErrForm
	}
	if e := Check(l); e != api.OK {
		return api.Lexicon{}, 0, e
	}
	return l, 0, api.OK
}

// readLines returns what the lines of a text say, or false and the number of the line that goes wrong; 0 if there is none.
func readLines(text string) (l api.Lexicon, line int, ok bool) {
	defer func() { // line is still the number of the line that was left
		if recover() != nil {
			l, ok = api.Lexicon{}, false
		}
	}()
	rules := lineRules()
	kind := "" // of the line ahead
	for s := range strings.Lines(text) {
		line++
		s = strings.TrimSuffix(s, "\n")
		if s != "" && s[0] != ';' {
			kind = takeLine(&l, rules, kind, s)
		}
	}
	return l, 0, kind != ""
}

// takeLine takes what a line says, and returns its kind.
func takeLine(l *api.Lexicon, rules map[string]lineRule, ahead, line string) string {
	kind, rest, _ := strings.Cut(line, " ")
	words := strings.Split(rest, " ")
	r, ok := rules[kind]
	enough := len(words) == r.words || r.more && len(words) > r.words
	if !ok || !enough || slices.Contains(words, "") || !slices.Contains(r.behind, ahead) {
		panic(wrongLine)
	}
	r.take(l, words)
	return kind
}

// Print returns the text of a lexicon.
func Print(l api.Lexicon) (string, api.Errno) {
	if e := Check(l); e != api.OK {
		return "", e
	}
	var p printer
	p.line(nil, "vowels", l.Vowels)
	for _, t := range l.Traits {
		p.line(nil, slices.Concat([]string{"trait", t.Name}, t.Values)...)
	}
	for _, c := range l.Classes {
		p.class(c)
	}
	for _, n := range l.Entries {
		p.entry(n)
	}
	for _, r := range l.Spells {
		p.line(nil, "spell", r.From, r.To, r.Left, r.Right)
	}
	for _, k := range l.Links {
		p.line(k.Feats, "link", k.Class, k.Glue)
	}
	if len(p.out) > api.MaxText {
		return "", api.ErrLimit
	}
	return string(p.out), api.OK
}

// printer keeps the lines that are printed.
type printer struct{ out []byte }

// line prints words, with features behind them.
func (p *printer) line(feats []api.Feat, words ...string) {
	for i, w := range words {
		if i > 0 {
			p.out = append(p.out, ' ')
		}
		p.out = append(p.out, writeEmpty(w)...)
	}
	for _, f := range feats {
		p.out = append(p.out, " "+f.Name+"="+f.Value...)
	}
	p.out = append(p.out, '\n')
}

func (p *printer) class(c api.Class) {
	p.line(nil, "class", c.Name)
	for _, s := range c.Slots {
		p.line(s.Feats, "slot", strconv.Itoa(s.Cut), s.Pre, s.Add)
	}
}

func (p *printer) entry(n api.Entry) {
	p.line(n.Feats, "entry", n.Lemma, n.Class)
	for _, f := range n.Forms {
		p.line(nil, "form", strconv.Itoa(f.Slot), f.Word)
	}
}

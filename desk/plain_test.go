package desk_test

import (
	"fmt"
	"regexp"
	"slices"
	"strconv"
	"strings"
	"unicode/utf8"

	"truchman/api"
	"truchman/checks"
	"truchman/decode"
	"truchman/docs"
	"truchman/grammar"
	"truchman/morph"
	"truchman/office"
	"truchman/terms"
	"truchman/train"
)

// plain does commands in the plainest way: a pattern for the whole text of each command, and a map for each kind of things.
type plain struct {
	names     []string
	kinds     map[string]string // of each name
	lexicons  map[string]api.Lexicon
	systems   map[string]api.System
	models    map[string]api.Model
	termbases map[string]api.Termbase
	rules     map[string][]api.Break
	checks    map[string][]api.Rating
	offices   map[string]api.Office
	proofs    []api.Certificate
}

func newPlain() *plain {
	return &plain{
		kinds: map[string]string{}, lexicons: map[string]api.Lexicon{}, systems: map[string]api.System{}, models: map[string]api.Model{},
		termbases: map[string]api.Termbase{}, rules: map[string][]api.Break{}, checks: map[string][]api.Rating{}, offices: map[string]api.Office{},
	}
}

// plainForms are the forms of commands: NEW, the kinds of things, WORD, WORDS, COUNT and ROLE stand for words; * for a body of any lines, | for one of one line.
var plainForms = []string{
	"lexicon NEW *", "system NEW LEXICON LEXICON *", "model NEW *", "terms NEW *", "rules NEW *", "checks NEW *", "office NEW RULES *", "copy NEW OFFICE",
	"analyze LEXICON WORD", "translate SYSTEM MODEL WORDS", "lang OFFICE WORD", "person OFFICE WORD WORD ROLE",
	"lock OFFICE WORD WORD COUNT", "free OFFICE WORD WORD COUNT", "approve OFFICE WORD WORD COUNT", "reject OFFICE WORD WORD COUNT", "reopen OFFICE WORD WORD COUNT",
	"pick OFFICE WORD WORD COUNT COUNT", "edit OFFICE WORD WORD COUNT |", "source OFFICE *", "draft OFFICE WORD WORD COUNT SYSTEM MODEL",
	"merge NEW OFFICE OFFICE OFFICE", "test CHECKS OFFICE WORD", "issues TERMS OFFICE WORD WORD WORD LEXICON LEXICON", "show OFFICE WORD", "verify",
}

// pattern returns the pattern of a form.
func pattern(form string) *regexp.Regexp {
	words := strings.Fields(form)
	out, end := words[0], ""
	for _, w := range words[1:] {
		switch w {
		case "*":
			end = `((?:\n\|[^\n]*)*)`
		case "|":
			end = `(\n\|[^\n]*)`
		case "WORD":
			out += ` ([^ \n]+)`
		case "WORDS":
			out += `((?: [^ \n]+)*)`
		case "COUNT":
			out += ` (0|[1-9][0-9]{0,8})`
		case "ROLE":
			out += ` (translator|reviewer)`
		default:
			out += ` ([A-Za-z][A-Za-z0-9_]{0,11})`
		}
	}
	return regexp.MustCompile(`\A` + out + end + `\n?\z`)
}

var patterns = func() []*regexp.Regexp {
	var out []*regexp.Regexp
	for _, form := range plainForms {
		out = append(out, pattern(form))
	}
	return out
}()

// must ends a command of plain with an error.
func must(e api.Errno) {
	if e != api.OK {
		panic(e)
	}
}

func mustBe(is bool, e api.Errno) {
	if !is {
		panic(e)
	}
}

// do does a command.
func (p *plain) do(text string) (answer string, e api.Errno) {
	if len(text) > api.MaxText {
		return "", api.ErrLimit
	}
	for i, form := range plainForms {
		if found := patterns[i].FindStringSubmatch(text); found != nil {
			defer func() {
				if x := recover(); x != nil {
					answer, e = "", x.(api.Errno)
				}
			}()
			return p.doForm(strings.Fields(form), found[1:]), api.OK
		}
	}
	return "", api.ErrForm
}

func (p *plain) doForm(form, found []string) string {
	makes := len(form) > 1 && form[1] == "NEW"
	mustBe(!makes || p.kinds[found[0]] == "", api.ErrTwice)
	for i, kind := range form[1:] {
		if strings.Contains(" LEXICON SYSTEM MODEL TERMS RULES CHECKS OFFICE ", " "+kind+" ") {
			mustBe(p.kinds[found[i]] == kind, api.ErrNone)
		}
	}
	mustBe(!makes || len(p.names) < api.MaxNamed, api.ErrLimit)
	switch form[0] {
	case "lexicon", "system", "model", "terms", "rules", "checks", "office", "copy", "merge":
		return p.make(form[0], found)
	case "analyze":
		return p.analyze(found[0], found[1])
	case "translate":
		return p.translate(found[0], found[1], strings.Split(found[2], " ")[1:])
	case "test":
		return p.test(found[0], found[1], found[2])
	case "issues":
		return p.issues(found)
	case "show":
		d, e := office.Output(p.offices[found[0]], found[1])
		must(e)
		s, e := docs.Print(d)
		must(e)
		return "show " + found[0] + " " + found[1] + "\n" + s
	case "verify":
		return fmt.Sprint("verified ", len(p.proofs))
	}
	return p.event(form[0], found)
}

// bodyText is the text of a body that a pattern found.
func bodyText(found string) string {
	if found == "" {
		return ""
	}
	return strings.ReplaceAll(found, "\n|", "\n")[1:] + "\n"
}

func bodyLines(found string) []string {
	return strings.Split(found, "\n|")[1:]
}

func (p *plain) name(name, kind string) {
	p.names = append(p.names, name)
	p.kinds[name] = kind
}

func (p *plain) cite(c api.Certificate) string {
	p.proofs = append(p.proofs, c)
	return fmt.Sprintf(" [%d]", len(p.proofs)-1)
}

func (p *plain) make(what string, found []string) string {
	name, body := found[0], found[len(found)-1]
	switch what {
	case "lexicon":
		l, _, e := morph.Parse(bodyText(body))
		must(e)
		p.lexicons[name] = l
		p.name(name, "LEXICON")
		return fmt.Sprintf("lexicon %s: %d entries", name, len(l.Entries))
	case "system":
		s, _, e := grammar.Parse(p.lexicons[found[1]], p.lexicons[found[2]], bodyText(body))
		must(e)
		p.systems[name] = s
		p.name(name, "SYSTEM")
		return fmt.Sprintf("system %s: %d rules", name, len(s.Rules))
	case "model":
		var sentences [][]string
		for _, line := range bodyLines(body) {
			words := strings.Split(line, " ")
			if line == "" {
				words = nil
			}
			sentences = append(sentences, words)
		}
		m, e := train.Build(sentences)
		must(e)
		p.models[name] = m
		p.name(name, "MODEL")
		return fmt.Sprintf("model %s: %d words %d pairs", name, len(m.Words), len(m.Pairs))
	case "terms":
		b, _, e := terms.Parse(bodyText(body))
		must(e)
		p.termbases[name] = b
		p.name(name, "TERMS")
		return fmt.Sprintf("terms %s: %d concepts", name, len(b.Concepts))
	case "rules":
		l := plainBreaks(bodyLines(body))
		must(docs.CheckBreaks(l))
		p.rules[name] = l
		p.name(name, "RULES")
		return fmt.Sprintf("rules %s: %d rules", name, len(l))
	case "checks":
		l := plainRatings(bodyLines(body))
		_, e := checks.Report(l, nil)
		must(e)
		p.checks[name] = l
		p.name(name, "CHECKS")
		return fmt.Sprintf("checks %s: %d checks", name, len(l))
	case "office":
		o, e := office.New(bodyText(body), p.rules[found[1]])
		must(e)
		p.offices[name] = o
	case "copy":
		p.offices[name] = p.offices[found[1]]
	case "merge":
		base, a, b := p.offices[found[1]], p.offices[found[2]], p.offices[found[3]]
		o, l, e := office.Merge(base, a, b)
		must(e)
		p.offices[name] = o
		p.name(name, "OFFICE")
		return fmt.Sprintf("office %s: %d conflicts", name, len(l)) + p.cite(api.Certificate{Kind: api.CtMerge, Base: base, A: a, B: b, Merged: o})
	}
	p.name(name, "OFFICE")
	segments, _ := docs.Segments(p.offices[name].Source, p.offices[name].Rules)
	return fmt.Sprintf("office %s: %d segments", name, len(segments))
}

const stringPattern = `"((?:[^"\\]|\\["\\])*)"`

var (
	breakPattern  = regexp.MustCompile(`\A(break|keep) ` + stringPattern + ` ` + stringPattern + `\z`)
	ratingPattern = regexp.MustCompile(`(?s)\A([^ ]+) (0|[1-9][0-9]{0,8}) (.*)\z`)
	escapePattern = regexp.MustCompile(`\\(.)`)
)

func plainBreaks(lines []string) []api.Break {
	var out []api.Break
	for _, line := range lines {
		found := breakPattern.FindStringSubmatch(line)
		mustBe(found != nil, api.ErrForm)
		for _, s := range found[2:] {
			mustBe(utf8.ValidString(s) && !strings.ContainsFunc(s, func(r rune) bool { return r < 32 || r == 127 }), api.ErrForm)
		}
		out = append(out, api.Break{Before: escapePattern.ReplaceAllString(found[2], "$1"), After: escapePattern.ReplaceAllString(found[3], "$1"), Break: found[1] == "break"})
	}
	return out
}

func plainRatings(lines []string) []api.Rating {
	var out []api.Rating
	for _, line := range lines {
		found := ratingPattern.FindStringSubmatch(line)
		mustBe(found != nil, api.ErrForm)
		weight, _ := strconv.Atoi(found[2])
		out = append(out, api.Rating{Name: found[1], Weight: weight, Formula: found[3]})
	}
	return out
}

func (p *plain) analyze(name, word string) string {
	l := p.lexicons[name]
	analyses, e := morph.Analyze(l, word)
	must(e)
	if len(analyses) == 0 {
		return "analyze " + word + ": none"
	}
	out := "analyze " + word + ":"
	for _, x := range analyses {
		out += " "
		for _, first := range x.Firsts {
			out += l.Entries[first.Entry].Lemma + "+"
		}
		out += fmt.Sprintf("%s/%d", l.Entries[x.Entry].Lemma, x.Slot)
	}
	return out + p.cite(api.Certificate{Kind: api.CtAnalysis, Lexicon: l, Word: word, Analyses: analyses})
}

func (p *plain) translate(system, model string, words []string) string {
	s, m := p.systems[system], p.models[model]
	trees, e := decode.Best(s, m, words, 1)
	must(e)
	proof, e := decode.Prove(s, m, words)
	must(e)
	if len(trees) == 0 {
		return "translate: none"
	}
	read, e := grammar.Derive(s, trees[0])
	must(e)
	score, _ := decode.Score(m, read.Target)
	out := strings.Join(append([]string{"translate:"}, read.Target...), " ") + fmt.Sprint(" total ", read.Cost+score)
	return out + p.cite(api.Certificate{Kind: api.CtTranslation, System: s, Model: m, Words: words, Tree: trees[0], Total: read.Cost + score, Proof: proof})
}

// pairs are the pairs of a language.
func (p *plain) pairs(name, lang string) []api.Pair {
	o := p.offices[name]
	mustBe(slices.Contains(o.Langs, lang), api.ErrNone)
	segments, _ := docs.Segments(o.Source, o.Rules)
	var out []api.Pair
	for i, c := range o.Cells[slices.Index(o.Langs, lang)] {
		if c.State == api.CeDraft || c.State == api.CeRejected || c.State == api.CeApproved {
			out = append(out, api.Pair{Source: segments[i].Pieces, Target: pieces(c.Text)})
		}
	}
	return out
}

func (p *plain) test(name, o, lang string) string {
	l, pairs := p.checks[name], p.pairs(o, lang)
	for _, x := range pairs {
		for _, side := range [][]api.Piece{x.Source, x.Target} {
			_, e := docs.Words(side)
			must(e)
		}
	}
	var cited []api.Certificate
	weight := 0
	for _, x := range pairs {
		for _, rating := range l {
			if is, reasons, _ := checks.Explain(rating.Formula, x); !is {
				cited = append(cited, api.Certificate{Kind: api.CtFailure, Formula: rating.Formula, Pair: x, Reasons: reasons})
				weight += rating.Weight
			}
		}
	}
	out := fmt.Sprintf("test %s: %d findings weigh %d", name, len(cited), weight)
	if len(cited) > 0 {
		out += p.cite(cited[0])
	}
	return out
}

func (p *plain) issues(found []string) string {
	pairs := p.pairs(found[1], found[2])
	domain := found[3]
	if domain == "-" {
		domain = ""
	}
	from, to := api.Tongue{Name: found[4], Lexicon: p.lexicons[found[5]]}, api.Tongue{Name: found[2], Lexicon: p.lexicons[found[6]]}
	l, e := terms.Issues(p.termbases[found[0]], from, to, domain, pairs)
	must(e)
	out := fmt.Sprintf("issues %s: %d", found[0], len(l))
	for _, x := range l {
		out += fmt.Sprintf(" %d:%d:%d", x.Pair, x.Kind, x.Concept)
	}
	return out
}

func (p *plain) event(what string, found []string) string {
	x := api.Event{}
	answer := found[0] + ": done"
	if len(found) > 3 {
		x.Who, x.Lang = found[1], found[2]
		x.Segment, _ = strconv.Atoi(found[3])
	}
	switch what {
	case "lang":
		x.Kind, x.Lang = api.EvLanguage, found[1]
	case "person":
		x.Kind, x.Role = api.EvPerson, map[string]api.Role{"translator": api.RoTranslator, "reviewer": api.RoReviewer}[found[3]]
	case "source":
		x.Kind, x.Text = api.EvSource, bodyText(found[1])
	case "pick":
		x.Kind = api.EvPick
		x.Number, _ = strconv.Atoi(found[4])
	case "edit":
		x.Kind, x.Text = api.EvEdit, strings.TrimPrefix(found[4], "\n|")
	case "draft":
		x.Kind, x.Text = api.EvEdit, p.draft(found[0], x.Segment, p.systems[found[4]], p.models[found[5]])
		answer = "draft: " + x.Text
	default:
		x.Kind = map[string]api.EventKind{"lock": api.EvLock, "free": api.EvFree, "approve": api.EvApprove, "reject": api.EvReject, "reopen": api.EvReopen}[what]
	}
	o, e := office.Apply(p.offices[found[0]], x)
	must(e)
	p.offices[found[0]] = o
	return answer
}

var (
	greatPattern = regexp.MustCompile(`\A[A-Z]`)
	smallPattern = regexp.MustCompile(`\A[a-z]`)
)

func (p *plain) draft(name string, segment int, s api.System, m api.Model) string {
	segments, _ := docs.Segments(p.offices[name].Source, p.offices[name].Rules)
	mustBe(segment < len(segments), api.ErrNone)
	words, e := docs.Words(segments[segment].Pieces)
	must(e)
	bare := docs.Bare(words)
	var sentence []string
	for _, w := range bare {
		w = regexp.MustCompile(`[A-Z]`).ReplaceAllStringFunc(w, strings.ToLower)
		mustBe(morph.Word(w), api.ErrScope)
		sentence = append(sentence, w)
	}
	trees, e := decode.Best(s, m, sentence, 1)
	must(e)
	mustBe(len(trees) > 0, api.ErrNone)
	read, e := grammar.Derive(s, trees[0])
	must(e)
	if greatPattern.MatchString(bare[0]) && len(read.Target) > 0 {
		read.Target[0] = smallPattern.ReplaceAllStringFunc(read.Target[0], strings.ToUpper)
	}
	l, e := docs.Project(segments[segment].Pieces, read.Target, plainTies(s, trees[0]))
	must(e)
	out, e := docs.Write(l)
	must(e)
	return out
}

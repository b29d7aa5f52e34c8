package checks

import (
	"strconv"

	"truchman/api"
)

// Parse returns the tree of a formula, or the place where it goes wrong.
func Parse(text string) (t api.Term, at int, e api.Errno) {
	if len(text) > api.MaxFormula {
		return api.Term{}, 0, api.ErrLimit
	}
	p := parser{tools: tools()}
	for w, ok := range told(text) {
		if !ok {
			return api.Term{}, w.at, api.ErrForm
		}
		p.words = append(p.words, w)
	}
	p.words = append(p.words, word{kind: endWord, at: len(text)})
	t = p.whole()
	if p.wrong {
		return api.Term{}, p.at, api.ErrForm
	}
	if depth(t) > api.MaxNest {
		return api.Term{}, 0, api.ErrLimit
	}
	if _, e := (checker{p.tools}).kindOf(t, nil); e != api.OK {
		return api.Term{}, 0, e
	}
	return t, 0, api.OK
}

// depth returns how deep a tree is.
func depth(t api.Term) int {
	most := 0
	for _, sub := range t.Subs {
		most = max(most, depth(sub))
	}
	return most + 1
}

// parser makes a tree of words. Behind a word that is wrong it sees no further one, so that all that it has begun comes to an end.
type parser struct {
	words []word // the last one is the end
	next  int
	wrong bool
	at    int // where the wrong word stands
	tools map[string]tool
}

func (p *parser) now() word { return p.words[p.next] }

// fail says that no formula goes on with the word that is next.
func (p *parser) fail() {
	if p.wrong {
		return
	}
	p.wrong, p.at = true, p.now().at
	p.next = len(p.words) - 1
}

// sees reports whether a word with a meaning, or a sign, is next.
func (p *parser) sees(text string) bool {
	w := p.now()
	return (w.kind == letterWord || w.kind == signWord) && w.text == text
}

// take goes past a word, if it is next.
func (p *parser) take(text string) bool {
	if !p.sees(text) {
		return false
	}
	p.next++
	return true
}

// must goes past a word, which is the only one that may be next.
func (p *parser) must(text string) {
	if !p.take(text) {
		p.fail()
	}
}

// whole reads a formula, and nothing behind it.
func (p *parser) whole() api.Term {
	t := p.formula()
	if p.now().kind != endWord {
		p.fail()
	}
	return t
}

func (p *parser) formula() api.Term { return p.joined(api.TeOr, "or", p.conj) }

func (p *parser) conj() api.Term { return p.joined(api.TeAnd, "and", p.unit) }

// joined reads parts with a word between each two; one part stands for itself.
func (p *parser) joined(kind api.TermKind, between string, part func() api.Term) api.Term {
	t := api.Term{Kind: kind, Subs: []api.Term{part()}}
	for p.take(between) {
		t.Subs = append(t.Subs, part())
	}
	if len(t.Subs) == 1 {
		return t.Subs[0]
	}
	return t
}

func (p *parser) unit() api.Term {
	switch {
	case p.take("not"):
		return api.Term{Kind: api.TeNot, Subs: []api.Term{p.unit()}}
	case p.take("all"):
		return p.quantifier(api.TeAll)
	case p.take("any"):
		return p.quantifier(api.TeAny)
	case p.take("("):
		t := p.formula()
		p.must(")")
		return t
	case p.seesTool(true):
		return p.use(api.TeTest)
	}
	left := p.term()
	t := api.Term{Kind: api.TeCompare, Text: p.operator()}
	t.Subs = []api.Term{left, p.term()}
	return t
}

func (p *parser) quantifier(kind api.TermKind) api.Term {
	t := api.Term{Kind: kind, Text: p.name()}
	p.must("in")
	list := p.term()
	p.must(":")
	t.Subs = []api.Term{list, p.unit()}
	return t
}

func (p *parser) name() string {
	w := p.now()
	if !p.seesName() {
		p.fail()
		return ""
	}
	p.next++
	return w.text
}

// seesName reports whether a name is next: letters that mean nothing else.
func (p *parser) seesName() bool {
	w := p.now()
	switch w.text {
	case "or", "and", "not", "all", "any", "in", "source", "target":
		return false
	}
	_, used := p.tools[w.text]
	return w.kind == letterWord && !used
}

func (p *parser) operator() string {
	switch w := p.now(); w.text {
	case "==", "!=", "<", "<=", ">", ">=", "in", "~":
		if w.kind != stringWord {
			p.next++
			return w.text
		}
	}
	p.fail()
	return ""
}

func (p *parser) term() api.Term {
	t := p.product()
	for {
		kind := api.TeAdd
		if p.sees("-") {
			kind = api.TeSub
		} else if !p.sees("+") {
			return t
		}
		p.next++
		t = api.Term{Kind: kind, Subs: []api.Term{t, p.product()}}
	}
}

func (p *parser) product() api.Term {
	t := p.atom()
	for p.take("*") {
		t = api.Term{Kind: api.TeMul, Subs: []api.Term{t, p.atom()}}
	}
	return t
}

func (p *parser) atom() api.Term {
	w := p.now()
	switch {
	case p.take("source"):
		return api.Term{Kind: api.TeSource}
	case p.take("target"):
		return api.Term{Kind: api.TeTarget}
	case p.seesTool(false):
		return p.use(api.TeCall)
	case p.seesName():
		return api.Term{Kind: api.TeName, Text: p.name()}
	case w.kind == stringWord:
		p.next++
		return api.Term{Kind: api.TeText, Text: w.text}
	case w.kind == numberWord:
		p.next++
		n, _ := strconv.ParseInt(w.text, 10, 64)
		return api.Term{Kind: api.TeNumber, Num: n}
	}
	p.fail()
	return api.Term{}
}

// seesTool reports whether a test is next, or a function.
func (p *parser) seesTool(test bool) bool {
	w := p.now()
	x, ok := p.tools[w.text]
	return w.kind == letterWord && ok && (x.gives == truthKind) == test
}

// use reads a test or a function with its arguments.
func (p *parser) use(kind api.TermKind) api.Term {
	t := api.Term{Kind: kind, Text: p.now().text}
	p.next++
	p.must("(")
	t.Subs = []api.Term{p.term()}
	for p.take(",") {
		t.Subs = append(t.Subs, p.term())
	}
	p.must(")")
	return t
}

package checks

import (
	"slices"

	"truchman/api"
)

// claim is a formula, or a part of one that is true or false.
type claim interface {
	holds(s *scene) bool
	// explain adds the reasons why it is true, or false, to those of a scene.
	explain(s *scene)
}

// There is a type for each kind of claims.
type (
	compareClaim struct {
		operator string
		two      two
		written  string
	}
	testClaim struct {
		call    callTerm
		written string
	}
	notClaim struct{ sub claim }
	andClaim struct{ subs []claim }
	orClaim  struct{ subs []claim }
	allClaim struct{ quantifier }
	anyClaim struct{ quantifier }
)

// quantifier binds a name to each element of a list.
type quantifier struct {
	name    string
	list    term
	body    claim
	written string
}

// scene is the pair that a formula is about, the names that are bound for now, outermost first, and the reasons that were found.
type scene struct {
	source, target *side
	bounds         []api.Bound
	reasons        []api.Reason
}

// newScene returns the scene of a pair, or docs.Words' error for a side.
func newScene(p api.Pair) (*scene, api.Errno) {
	source, e := newSide(p.Source)
	if e != api.OK {
		return nil, e
	}
	target, e := newSide(p.Target)
	if e != api.OK {
		return nil, e
	}
	return &scene{source: source, target: target}, api.OK
}

// newScenes returns the scenes of pairs, or the first error of these.
func newScenes(pairs []api.Pair) ([]*scene, api.Errno) {
	if len(pairs) > api.MaxSides {
		return nil, api.ErrLimit
	}
	var out []*scene
	for _, p := range pairs {
		s, e := newScene(p)
		if e != api.OK {
			return nil, e
		}
		out = append(out, s)
	}
	return out, api.OK
}

// bound returns what a name is bound to, by the innermost quantifier.
func (s *scene) bound(name string) string {
	for _, b := range slices.Backward(s.bounds) {
		if b.Name == name {
			return b.Value
		}
	}
	return ""
}

func (s *scene) bind(name, value string) {
	s.bounds = append(s.bounds, api.Bound{Name: name, Value: value})
}

func (s *scene) unbind() { s.bounds = s.bounds[:len(s.bounds)-1] }

// give adds a reason, unless there are as many as there may be.
func (s *scene) give(written string, truth bool) {
	if !s.full() {
		s.reasons = append(s.reasons, api.Reason{Formula: written, Bounds: slices.Clone(s.bounds), True: truth})
	}
}

func (s *scene) full() bool { return len(s.reasons) == api.MaxPieces }

// reasonsOf returns the reasons of a claim alone.
func (s *scene) reasonsOf(c claim) []api.Reason {
	s.reasons = nil
	c.explain(s)
	return s.reasons
}

func (c compareClaim) holds(s *scene) bool {
	return compares(c.operator, c.two.left.valueIn(s), c.two.right.valueIn(s))
}

func (c compareClaim) explain(s *scene) { s.give(c.written, c.holds(s)) }

func (c testClaim) holds(s *scene) bool { return c.call.valueIn(s).truth }

func (c testClaim) explain(s *scene) { s.give(c.written, c.holds(s)) }

func (c notClaim) holds(s *scene) bool { return !c.sub.holds(s) }

func (c notClaim) explain(s *scene) { c.sub.explain(s) }

func (c andClaim) holds(s *scene) bool { return !slices.ContainsFunc(c.subs, is(false, s)) }

func (c andClaim) explain(s *scene) { explainJoined(c.subs, false, s) }

func (c orClaim) holds(s *scene) bool { return slices.ContainsFunc(c.subs, is(true, s)) }

func (c orClaim) explain(s *scene) { explainJoined(c.subs, true, s) }

// is returns the question whether a claim is true, or false, in a scene.
func is(truth bool, s *scene) func(claim) bool {
	return func(c claim) bool { return c.holds(s) == truth }
}

// explainJoined adds the reasons of the first claim that has the truth that decides, or those of all claims if none has it.
func explainJoined(l []claim, decides bool, s *scene) {
	if i := slices.IndexFunc(l, is(decides, s)); i >= 0 {
		l = l[i : i+1]
	}
	for _, c := range l {
		c.explain(s)
	}
}

func (c allClaim) holds(s *scene) bool { return c.first(false, s) < 0 }

func (c allClaim) explain(s *scene) { c.explainEach(false, s) }

func (c anyClaim) holds(s *scene) bool { return c.first(true, s) >= 0 }

func (c anyClaim) explain(s *scene) { c.explainEach(true, s) }

// first returns the number of the first element for which the body is true, or false; -1 if there is none.
func (q quantifier) first(truth bool, s *scene) int {
	return slices.IndexFunc(q.list.valueIn(s).list, func(element string) bool {
		s.bind(q.name, element)
		defer s.unbind()
		return q.body.holds(s) == truth
	})
}

// explainEach adds the reasons for the first element that decides, or those for all elements if none does.
func (q quantifier) explainEach(decides bool, s *scene) {
	l := q.list.valueIn(s).list
	if len(l) == 0 {
		s.give(q.written, !decides)
	}
	if i := q.first(decides, s); i >= 0 {
		l = l[i : i+1]
	}
	for _, element := range l {
		if s.full() {
			return
		}
		s.bind(q.name, element)
		q.body.explain(s)
		s.unbind()
	}
}

// builder makes trees without errors into what can be evaluated.
type builder struct{ tools map[string]tool }

func (b builder) claim(t api.Term) claim {
	switch t.Kind {
	case api.TeCompare:
		return compareClaim{t.Text, b.two(t), written(t)}
	case api.TeTest:
		return testClaim{b.call(t), written(t)}
	case api.TeNot:
		return notClaim{b.claim(t.Subs[0])}
	case api.TeAnd:
		return andClaim{b.claims(t.Subs)}
	case api.TeOr:
		return orClaim{b.claims(t.Subs)}
	case api.TeAll:
		return allClaim{b.quantifier(t)}
	default:
		return anyClaim{b.quantifier(t)}
	}
}

func (b builder) claims(l []api.Term) []claim {
	var out []claim
	for _, t := range l {
		out = append(out, b.claim(t))
	}
	return out
}

func (b builder) quantifier(t api.Term) quantifier {
	return quantifier{t.Text, b.term(t.Subs[0]), b.claim(t.Subs[1]), written(t)}
}

func (b builder) term(t api.Term) term {
	switch t.Kind {
	case api.TeNumber:
		return numberTerm{t.Num}
	case api.TeText:
		return textTerm{t.Text}
	case api.TeName:
		return nameTerm{t.Text}
	case api.TeSource:
		return sourceTerm{}
	case api.TeCall:
		return b.call(t)
	case api.TeAdd:
		return addTerm{b.two(t)}
	case api.TeSub:
		return subTerm{b.two(t)}
	case api.TeMul:
		return mulTerm{b.two(t)}
	default:
		return targetTerm{}
	}
}

func (b builder) two(t api.Term) two { return two{b.term(t.Subs[0]), b.term(t.Subs[1])} }

func (b builder) call(t api.Term) callTerm {
	out := callTerm{work: b.tools[t.Text].work}
	for _, sub := range t.Subs {
		out.args = append(out.args, b.term(sub))
	}
	return out
}

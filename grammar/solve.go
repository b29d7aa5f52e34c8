package grammar

import (
	"slices"

	"truchman/api"
	"truchman/morph"
)

// node makes the paths of a node of a rule.
type node int

func (n node) source(name string) api.Path { return api.Path{Node: int(n), Name: name} }

func (n node) target(name string) api.Path { return api.Path{Node: int(n), Target: true, Name: name} }

// classes keeps the classes of paths, and their values. A path that next leads nowhere, or to itself, stands for its class.
type classes struct {
	next   map[api.Path]api.Path
	values map[api.Path]string // of the paths that stand for classes
	failed bool
}

// top returns the path that stands for the class of p.
func (c *classes) top(p api.Path) api.Path {
	for {
		next, ok := c.next[p]
		if !ok || next == p {
			return p
		}
		p = next
	}
}

// join puts two paths into one class. All are joined ahead of the first value.
func (c *classes) join(a, b api.Path) { c.next[c.top(a)] = c.top(b) }

// set gives the class of a path a value.
func (c *classes) set(p api.Path, value string) {
	p = c.top(p)
	if v, ok := c.values[p]; ok && v != value {
		c.failed = true
	}
	c.values[p] = value
}

// take gives the classes of the paths of a node's side the values of its bundle.
func (c *classes) take(path func(name string) api.Path, b []api.Feat) {
	for _, f := range b {
		c.set(path(f.Name), f.Value)
	}
}

// meet fails if the class of a path has a value that its trait does not have.
func (c *classes) meet(s api.System, p api.Path) {
	value, ok := c.values[c.top(p)]
	if values, _ := valuesOf(s, p); ok && !slices.Contains(values, value) {
		c.failed = true
	}
}

// bundle returns the bundle of a node's side.
func (c *classes) bundle(path func(name string) api.Path, traits []api.Trait) []api.Feat {
	names := converted(traits, func(t api.Trait) string { return t.Name })
	slices.Sort(names)
	var out []api.Feat
	for _, name := range names {
		if value, ok := c.values[c.top(path(name))]; ok {
			out = append(out, api.Feat{Name: name, Value: value})
		}
	}
	return out
}

// solve solves a rule for a pair of each of its parts; false if it fails.
func solve(s api.System, r api.Rule, parts []Pair) (Pair, bool) {
	c := &classes{next: map[api.Path]api.Path{}, values: map[api.Path]string{}}
	for _, q := range r.Equations {
		if q.Value == "" {
			c.join(q.A, q.B)
		}
	}
	for i, p := range parts {
		c.take(node(i+1).source, p.Source)
		c.take(node(i+1).target, p.Target)
	}
	for _, q := range r.Equations {
		if q.Value != "" {
			c.set(q.A, q.Value)
		}
	}
	for _, q := range r.Equations {
		c.meet(s, q.A)
		if q.Value == "" {
			c.meet(s, q.B)
		}
	}
	if c.failed {
		return Pair{}, false
	}
	left := node(0)
	return Pair{c.bundle(left.source, s.Source.Traits), c.bundle(left.target, s.Target.Traits)}, true
}

// Solve returns the pair of a rule's left side, made of those of its parts.
func Solve(s api.System, rule int, parts []Pair) (Pair, api.Errno) {
	if e := Check(s); e != api.OK {
		return Pair{}, e
	}
	r, ok := ruleOf(s, rule)
	if !ok {
		return Pair{}, api.ErrNone
	}
	if len(parts) != len(r.Parts) {
		return Pair{}, api.ErrArg
	}
	for _, p := range parts {
		if !isBundle(s.Source, p.Source) || !isBundle(s.Target, p.Target) {
			return Pair{}, api.ErrArg
		}
	}
	left, ok := solve(s, r, parts)
	if !ok {
		return Pair{}, api.ErrClash
	}
	return left, api.OK
}

// isBundle reports whether b is a bundle of a valid lexicon. That depends on the traits alone, so morph need not look at the entries again.
func isBundle(l api.Lexicon, b []api.Feat) bool {
	return morph.Bundle(api.Lexicon{Traits: l.Traits}, b) == api.OK
}

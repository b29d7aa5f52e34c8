package docs

import "truchman/api"

// test is an item of a pattern: how many units it takes behind a place, and whether they fit it.
type test func(all []unit, at int) (took int, ok bool)

// pattern is a compiled pattern.
type pattern struct {
	tests []test
	width int // how many units all of it takes
}

func (p pattern) fits(all []unit, at int) bool {
	if at < 0 || at+p.width > len(all) {
		return false
	}
	for _, t := range p.tests {
		took, ok := t(all, at)
		if !ok {
			return false
		}
		at += took
	}
	return true
}

// breaker is a compiled break rule.
type breaker struct {
	before, after pattern
	breaks        bool
}

func (b breaker) fits(all []unit, at int) bool {
	return b.before.fits(all, at-b.before.width) && b.after.fits(all, at)
}

// compile returns a pattern's items as functions, or its first error.
func compile(text string) (pattern, api.Errno) {
	if !isText(text) {
		return pattern{}, api.ErrForm
	}
	var out pattern
	begun := false // by a % that stands right ahead
	for _, r := range text {
		if r == '%' && !begun {
			begun = true
			continue
		}
		t := same(r)
		if begun {
			t = symbol(r)
		}
		if t == nil {
			return pattern{}, api.ErrForm
		}
		if !begun || r != 'b' { // %b takes no unit
			out.width++
		}
		out.tests = append(out.tests, t)
		begun = false
	}
	if begun {
		return pattern{}, api.ErrForm
	}
	if len(out.tests) > api.MaxFits {
		return pattern{}, api.ErrLimit
	}
	return out, api.OK
}

// symbol returns what is meant by a % with a rune behind it; nil if nothing is.
func symbol(r rune) test {
	switch r {
	case 'a':
		return one(func(u unit) bool { return u.class == letter })
	case 'u':
		return one(func(u unit) bool { return 'A' <= u.rune && u.rune <= 'Z' })
	case 'l':
		return one(func(u unit) bool { return 'a' <= u.rune && u.rune <= 'z' })
	case 'd':
		return one(func(u unit) bool { return u.class == digit })
	case 's':
		return one(func(u unit) bool { return u.class == blank })
	case 'p':
		return one(func(u unit) bool { return u.class == mark })
	case 'h':
		return one(func(u unit) bool { return u.class == hole })
	case '.':
		return one(func(unit) bool { return true })
	case '%':
		return same('%')
	case 'b':
		return border
	}
	return nil
}

// one makes a test of a question about a single unit.
func one(ask func(unit) bool) test {
	return func(all []unit, at int) (int, bool) { return 1, ask(all[at]) }
}

// same is the test for a rune that stands for itself. No hole fits it, since a pattern is text, which has no rune 0.
func same(r rune) test {
	return one(func(u unit) bool { return u.rune == r })
}

// border is the test for a place where not both neighbours are word units.
func border(all []unit, at int) (int, bool) {
	inside := 0 < at && at < len(all) && all[at-1].inWord() && all[at].inWord()
	return 0, !inside
}

// compileRules returns compiled rules, or their first error.
func compileRules(rules []api.Break) ([]breaker, api.Errno) {
	if len(rules) > api.MaxBreaks {
		return nil, api.ErrLimit
	}
	var out []breaker
	for _, r := range rules {
		before, e := compile(r.Before)
		if e != api.OK {
			return nil, e
		}
		after, e := compile(r.After)
		if e != api.OK {
			return nil, e
		}
		out = append(out, breaker{before, after, r.Break})
	}
	return out, api.OK
}

// CheckBreaks returns the first error of break rules.
func CheckBreaks(rules []api.Break) api.Errno {
	_, e := compileRules(rules)
	return e
}

// gather returns the units of a list.
func gather(l []api.Piece) []unit {
	var out []unit
	for _, u := range units(l) {
		out = append(out, u)
	}
	return out
}

// Breaks returns the places with a break.
func Breaks(rules []api.Break, l []api.Piece) ([]int, api.Errno) {
	compiled, e := compileRules(rules)
	if e != api.OK {
		return nil, e
	}
	if e := CheckPieces(l); e != api.OK {
		return nil, e
	}
	all := gather(l)
	var out []int
places:
	for place := range units(l) {
		if place == 0 {
			continue
		}
		for _, r := range compiled {
			if !r.fits(all, place) {
				continue
			}
			if r.breaks {
				out = append(out, place)
			}
			continue places
		}
	}
	return out, api.OK
}

// Fits reports whether a rule fits a place.
func Fits(rule api.Break, l []api.Piece, at int) (bool, api.Errno) {
	compiled, e := compileRules([]api.Break{rule})
	if e != api.OK {
		return false, e
	}
	if e := CheckPieces(l); e != api.OK {
		return false, e
	}
	all := gather(l)
	if at < 0 || at > len(all) {
		return false, api.ErrArg
	}
	return compiled[0].fits(all, at), api.OK
}

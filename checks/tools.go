package checks

import (
	"slices"
	"strings"

	"truchman/api"
	"truchman/docs"
)

// tool is a function or a test of formulas: the types of its arguments and of its result, and what it does. If it has a pattern, that is its second argument.
type tool struct {
	takes   []valueKind
	gives   valueKind
	pattern bool
	work    func(args []value) value
}

// tools returns the functions and the tests by their names.
func tools() map[string]tool {
	return map[string]tool{
		"words":   ofSide(listKind, func(s *side) value { return value{list: s.words} }),
		"tags":    ofSide(listKind, func(s *side) value { return value{list: s.tags} }),
		"holes":   ofSide(listKind, func(s *side) value { return value{list: s.holes} }),
		"numbers": ofSide(listKind, func(s *side) value { return value{list: s.numbers} }),
		"text":    ofSide(textKind, func(s *side) value { return value{text: s.text} }),
		"length":  ofSide(numberKind, func(s *side) value { return value{number: int64(s.units)} }),
		"size":    ofList(numberKind, func(l []string) value { return value{number: int64(len(l))} }),
		"first":   ofList(textKind, func(l []string) value { return value{text: elementAt(l, 0)} }),
		"last":    ofList(textKind, func(l []string) value { return value{text: elementAt(l, len(l)-1)} }),
		"count": {takes: []valueKind{listKind, textKind}, gives: numberKind, work: func(args []value) value {
			return value{number: places(args[0].list, args[1].text)}
		}},
		"lower": {takes: []valueKind{textKind}, gives: textKind, work: func(args []value) value {
			return value{text: strings.Map(lowRune, args[0].text)}
		}},
		"has": {takes: []valueKind{sideKind, textKind}, gives: truthKind, pattern: true, work: func(args []value) value {
			return value{truth: args[0].side.has(args[1].text)}
		}},
		"starts": ofTexts(strings.HasPrefix),
		"ends":   ofTexts(strings.HasSuffix),
		"holds":  ofTexts(strings.Contains),
	}
}

func ofSide(gives valueKind, work func(s *side) value) tool {
	return tool{takes: []valueKind{sideKind}, gives: gives, work: func(args []value) value { return work(args[0].side) }}
}

func ofList(gives valueKind, work func(l []string) value) tool {
	return tool{takes: []valueKind{listKind}, gives: gives, work: func(args []value) value { return work(args[0].list) }}
}

func ofTexts(ask func(a, b string) bool) tool {
	return tool{takes: []valueKind{textKind, textKind}, gives: truthKind, work: func(args []value) value {
		return value{truth: ask(args[0].text, args[1].text)}
	}}
}

// elementAt returns an element of a list, or the empty string if there is none.
func elementAt(l []string, i int) string {
	if i < 0 || i >= len(l) {
		return ""
	}
	return l[i]
}

// places returns how many elements of a list are a string.
func places(l []string, s string) int64 {
	n := int64(0)
	for _, x := range l {
		if x == s {
			n++
		}
	}
	return n
}

func lowRune(r rune) rune {
	if 'A' <= r && r <= 'Z' {
		return r - 'A' + 'a'
	}
	return r
}

// side is what formulas ask of a source or a target.
type side struct {
	pieces                      []api.Piece
	words, tags, holes, numbers []string
	text                        string
	units                       int
}

// newSide works out a side, or returns docs.Words' error.
func newSide(l []api.Piece) (*side, api.Errno) {
	words, e := docs.Words(l)
	if e != api.OK {
		return nil, e
	}
	s := side{pieces: l, words: docs.Bare(words), text: docs.Plain(l)}
	// Words has examined the pieces already.
	s.tags, _ = docs.Tags(l)
	s.units, _ = docs.Units(l)
	for _, w := range s.words {
		// No other word than a hole begins with this mark and goes on.
		if w[0] == '{' && len(w) > 1 {
			s.holes = append(s.holes, w)
		}
		if reach(w, isDigit) == len(w) {
			s.numbers = append(s.numbers, w)
		}
	}
	return &s, api.OK
}

// has reports whether a pattern fits at some place.
func (s *side) has(pattern string) bool {
	rule := api.Break{After: pattern, Break: true}
	// Breaks tells all places but the first and the last one.
	if l, _ := docs.Breaks([]api.Break{rule}, s.pieces); len(l) > 0 {
		return true
	}
	return slices.ContainsFunc([]int{0, s.units}, func(place int) bool {
		ok, _ := docs.Fits(rule, s.pieces, place)
		return ok
	})
}

package checks

import (
	"unicode/utf8"

	"truchman/api"
)

// gram is neighbouring words of a list; behind its last one there are empty strings.
type gram [api.MaxGram]string

// Matches returns the matches of two lists, and their numbers of grams.
func Matches(a, b []string, n int) (matches, first, second int, e api.Errno) {
	if len(a) > api.MaxWords || len(b) > api.MaxWords {
		return 0, 0, 0, api.ErrLimit
	}
	if n < 1 || n > api.MaxGram {
		return 0, 0, 0, api.ErrArg
	}
	left := map[gram]int{} // how often each one stands in a, and has not been matched
	for at := range gramsIn(a, n) {
		left[gramAt(a, at, n)]++
	}
	for at := range gramsIn(b, n) {
		if g := gramAt(b, at, n); left[g] > 0 {
			left[g]--
			matches++
		}
	}
	return matches, gramsIn(a, n), gramsIn(b, n), api.OK
}

// gramsIn returns the number of places of grams in a list.
func gramsIn(l []string, n int) int { return max(0, len(l)-n+1) }

func gramAt(l []string, at, n int) gram {
	var g gram
	copy(g[:], l[at:at+n])
	return g
}

// Precision returns which part of the grams are matches.
func Precision(a, b [][]string, n int) (api.Fraction, api.Errno) {
	if e := checkSides(a, b); e != api.OK {
		return api.Fraction{}, e
	}
	var matches, grams int64
	for i := range a {
		m, first, _, e := Matches(a[i], b[i], n)
		if e != api.OK {
			return api.Fraction{}, e
		}
		matches += int64(m)
		grams += int64(first)
	}
	return quotient(matches, grams), api.OK
}

// checkSides returns the error of lists that are to be compared pair by pair.
func checkSides(a, b [][]string) api.Errno {
	if len(a) > api.MaxSides {
		return api.ErrLimit
	}
	if len(a) != len(b) {
		return api.ErrArg
	}
	return api.OK
}

// The greatest grams of units, and the greatest weight of what is found again.
const (
	maxUnitGram = 3
	maxBeta     = 3
)

// UnitF compares two texts by their units.
func UnitF(a, b string, n, beta int) (api.Fraction, api.Errno) {
	if !isText(a) || !isText(b) {
		return api.Fraction{}, api.ErrForm
	}
	if utf8.RuneCountInString(a) > api.MaxUnits || utf8.RuneCountInString(b) > api.MaxUnits {
		return api.Fraction{}, api.ErrLimit
	}
	if n < 1 || n > maxUnitGram || beta < 1 || beta > maxBeta {
		return api.Fraction{}, api.ErrArg
	}
	unitsA, unitsB := unitsOf(a), unitsOf(b)
	p, r := quotient(0, 1), quotient(0, 1)
	for k := range n {
		matches, first, second, e := Matches(unitsA, unitsB, k+1)
		if e != api.OK {
			return api.Fraction{}, e
		}
		p = plus(p, quotient(int64(matches), int64(first)))
		r = plus(r, quotient(int64(matches), int64(second)))
	}
	p, r = quotient(p.Num, p.Den*int64(n)), quotient(r.Num, r.Den*int64(n))
	weight := int64(beta) * int64(beta)
	// Both products of the quotient are multiplied by both denominators.
	return quotient((1+weight)*p.Num*r.Num, weight*p.Num*r.Den+r.Num*p.Den), api.OK
}

// unitsOf returns the runes of a text, as a list of texts.
func unitsOf(s string) []string {
	var out []string
	for _, r := range s {
		out = append(out, string(r))
	}
	return out
}

// quotient returns a quotient in lowest terms, 0 if its denominator is 0.
func quotient(num, den int64) api.Fraction {
	if num == 0 || den == 0 {
		return api.Fraction{Den: 1}
	}
	d := divisor(num, den)
	return api.Fraction{Num: num / d, Den: den / d}
}

// divisor returns the greatest common divisor of two numbers.
func divisor(a, b int64) int64 {
	for b != 0 {
		a, b = b, a%b
	}
	return a
}

func plus(a, b api.Fraction) api.Fraction {
	return quotient(a.Num*b.Den+b.Num*a.Den, a.Den*b.Den)
}

// lesser reports whether a fraction is less than another one.
func lesser(a, b api.Fraction) bool { return a.Num*b.Den < b.Num*a.Den }

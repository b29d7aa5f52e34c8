package checks

import (
	"sort"

	"truchman/api"
)

// The greatest Num and Den of a part, and the most scores of 1000 that are left out at each end.
const (
	maxPart = 1000000
	maxOut  = 499
)

// Draws returns draws that a seed makes.
func Draws(seed uint64, n, many int) ([][]int, api.Errno) {
	if n < 1 || n > api.MaxSides || many < 0 || many > api.MaxDraws {
		return nil, api.ErrArg
	}
	var out [][]int
	for range many {
		draw := make([]int, n)
		for i := range draw {
			seed += 0x9E3779B97F4A7C15
			draw[i] = int(mixed(seed) % uint64(n))
		}
		out = append(out, draw)
	}
	return out, api.OK
}

// mixed makes a number in which each bit of the seed has a say.
func mixed(z uint64) uint64 {
	z = (z ^ z>>30) * 0xBF58476D1CE4E5B9
	z = (z ^ z>>27) * 0x94D049BB133111EB
	return z ^ z>>31
}

// Interval returns an interval for a score.
func Interval(parts []api.Fraction, draws [][]int, out int) (low, high api.Fraction, e api.Errno) {
	if e := checkParts(parts, draws); e != api.OK {
		return api.Fraction{}, api.Fraction{}, e
	}
	if out < 0 || out > maxOut {
		return api.Fraction{}, api.Fraction{}, api.ErrArg
	}
	l := scoresOf(parts, draws)
	sort.Slice(l, l.isLess)
	k := len(l) * out / 1000
	return l[k], l[len(l)-1-k], api.OK
}

// Better returns in how many draws one score is greater than another one, and less.
func Better(a, b []api.Fraction, draws [][]int) (more, less int, e api.Errno) {
	if e := checkParts(a, draws); e != api.OK {
		return 0, 0, e
	}
	if e := checkParts(b, draws); e != api.OK {
		return 0, 0, e
	}
	if len(a) != len(b) {
		return 0, 0, api.ErrArg
	}
	second := scoresOf(b, draws)
	for i, x := range scoresOf(a, draws) {
		if lesser(second[i], x) {
			more++
		}
		if lesser(x, second[i]) {
			less++
		}
	}
	return more, less, api.OK
}

// checkParts returns the first error of parts, then of draws of these.
func checkParts(parts []api.Fraction, draws [][]int) api.Errno {
	if len(parts) == 0 {
		return api.ErrArg
	}
	for _, p := range parts {
		if p.Num < 0 || p.Num > maxPart || p.Den < 0 || p.Den > maxPart {
			return api.ErrArg
		}
	}
	if len(parts) > api.MaxSides {
		return api.ErrLimit
	}
	if len(draws) == 0 {
		return api.ErrArg
	}
	if len(draws) > api.MaxDraws {
		return api.ErrLimit
	}
	for _, draw := range draws {
		if !isDraw(draw, len(parts)) {
			return api.ErrArg
		}
	}
	return api.OK
}

// isDraw reports whether a list is a draw of so many parts.
func isDraw(draw []int, parts int) bool {
	if len(draw) == 0 || len(draw) > api.MaxSides {
		return false
	}
	for _, i := range draw {
		if i < 0 || i >= parts {
			return false
		}
	}
	return true
}

// scores are those of draws.
type scores []api.Fraction

func (l scores) isLess(i, j int) bool { return lesser(l[i], l[j]) }

func scoresOf(parts []api.Fraction, draws [][]int) scores {
	var out scores
	for _, draw := range draws {
		var num, den int64
		for _, i := range draw {
			num += parts[i].Num
			den += parts[i].Den
		}
		out = append(out, quotient(num, den))
	}
	return out
}

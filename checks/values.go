package checks

import (
	"slices"

	"truchman/api"
)

// value is what a term, or a test, comes to; just the field of its type is set.
type value struct {
	number int64
	text   string
	list   []string
	side   *side
	truth  bool
}

// term is a part of a formula that has a value.
type term interface {
	valueIn(s *scene) value
}

// There is a type for each kind of terms.
type (
	numberTerm struct{ number int64 }
	textTerm   struct{ text string }
	nameTerm   struct{ name string }
	sourceTerm struct{}
	targetTerm struct{}
	callTerm   struct {
		work func(args []value) value
		args []term
	}
	addTerm struct{ two }
	subTerm struct{ two }
	mulTerm struct{ two }
)

// two are the operands of an operation.
type two struct{ left, right term }

func (t two) numbersIn(s *scene) (a, b int64) {
	return t.left.valueIn(s).number, t.right.valueIn(s).number
}

func (t numberTerm) valueIn(*scene) value { return value{number: t.number} }

func (t textTerm) valueIn(*scene) value { return value{text: t.text} }

func (t nameTerm) valueIn(s *scene) value { return value{text: s.bound(t.name)} }

func (t sourceTerm) valueIn(s *scene) value { return value{side: s.source} }

func (t targetTerm) valueIn(s *scene) value { return value{side: s.target} }

func (t callTerm) valueIn(s *scene) value { return t.work(valuesIn(t.args, s)) }

func (t addTerm) valueIn(s *scene) value {
	a, b := t.numbersIn(s)
	return value{number: sum(a, b)}
}

func (t subTerm) valueIn(s *scene) value {
	a, b := t.numbersIn(s)
	return value{number: sum(a, -b)}
}

func (t mulTerm) valueIn(s *scene) value {
	a, b := t.numbersIn(s)
	return value{number: times(a, b)}
}

func valuesIn(l []term, s *scene) []value {
	var out []value
	for _, t := range l {
		out = append(out, t.valueIn(s))
	}
	return out
}

// sum returns the sum of two numbers within the bounds, or the bound that it is beyond.
func sum(a, b int64) int64 { return max(-api.MaxNumber, min(a+b, api.MaxNumber)) }

// times returns a product, or the bound that it is beyond. No factor is below 0: there are no parentheses around terms.
func times(a, b int64) int64 {
	if b > 0 && a > api.MaxNumber/b {
		return api.MaxNumber
	}
	return a * b
}

// compares reports what an operator says of two values.
func compares(operator string, a, b value) bool {
	switch operator {
	case "==":
		return equal(a, b)
	case "!=":
		return !equal(a, b)
	case "<":
		return a.number < b.number
	case "<=":
		return a.number <= b.number
	case ">":
		return a.number > b.number
	case ">=":
		return a.number >= b.number
	case "in":
		return slices.Contains(b.list, a.text)
	}
	return slices.Equal(slices.Sorted(slices.Values(a.list)), slices.Sorted(slices.Values(b.list)))
}

// equal reports whether two values of one type are equal.
func equal(a, b value) bool {
	return a.number == b.number && a.text == b.text && slices.Equal(a.list, b.list)
}

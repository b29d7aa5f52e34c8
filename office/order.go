package office

import (
	"cmp"
	"slices"

	"truchman/api"
	"truchman/docs"
)

// order tells by a function which one of two values comes first, or, if it is backward, last.
type order[T any] struct {
	compare  func(a, b T) int
	backward bool
}

func (o order[T]) of(a, b T) int {
	if o.backward {
		return o.compare(b, a)
	}
	return o.compare(a, b)
}

// inTurn compares values by the first one of several orders that tells them apart.
func inTurn[T any](a, b T, orders ...order[T]) int {
	for _, o := range orders {
		if n := o.of(a, b); n != 0 {
			return n
		}
	}
	return 0
}

// by is the order of what a function tells of values.
func by[T any, K cmp.Ordered](tell func(T) K) order[T] {
	return order[T]{compare: func(a, b T) int { return cmp.Compare(tell(a), tell(b)) }}
}

// yes is the order in which the values come last of which something is true.
func yes[T any](is func(T) bool) order[T] {
	return by(func(x T) int {
		if is(x) {
			return 1
		}
		return 0
	})
}

// backward is an order from its end on.
func backward[T any](o order[T]) order[T] {
	o.backward = !o.backward
	return o
}

// compareTexts compares the texts of cells, which are all of them but Lock and Others. The greater one is kept where two sessions have different ones.
func compareTexts(a, b api.Cell) int {
	return inTurn(a, b,
		yes(isDone),
		by(func(c api.Cell) api.CellState { return c.State }),
		yes(isFresh),
		backward(by(func(c api.Cell) string { return c.Text })),
		backward(by(func(c api.Cell) string { return c.Author })),
		backward(by(func(c api.Cell) string { return c.Reviewer })),
		by(func(c api.Cell) int { return c.Since }),
	)
}

func sameText(a, b api.Cell) bool { return compareTexts(a, b) == 0 }

func isEmpty(c api.Cell) bool { return c.State == api.CeEmpty }

func isFresh(c api.Cell) bool { return !c.Stale }

// isDone reports whether a cell has a text that counts as the translation of its segment.
func isDone(c api.Cell) bool { return c.State == api.CeApproved && isFresh(c) }

// isOwn reports whether the text of a cell is this other text, by the same author.
func isOwn(c api.Cell, other api.Other) bool {
	return !isEmpty(c) && c.Text == other.Text && c.Author == other.Author
}

// compareOthers does not ask whether they are approved.
func compareOthers(a, b api.Other) int {
	return inTurn(a, b,
		by(func(x api.Other) string { return x.Text }),
		by(func(x api.Other) string { return x.Author }),
	)
}

func comparePeople(a, b api.Person) int {
	return inTurn(a, b,
		by(func(p api.Person) string { return p.Lang }),
		by(func(p api.Person) string { return p.Name }),
		by(func(p api.Person) api.Role { return p.Role }),
	)
}

func compareShelved(a, b api.Shelved) int {
	return inTurn(a, b,
		by(func(x api.Shelved) string { return x.Lang }),
		by(func(x api.Shelved) string { return x.Source }),
		by(func(x api.Shelved) string { return x.Text }),
		by(func(x api.Shelved) string { return x.Author }),
		by(func(x api.Shelved) string { return x.Reviewer }),
		by(func(x api.Shelved) int { return x.Since }),
	)
}

// Same reports whether two offices are equal.
func Same(a, b api.Office) bool {
	return a.Version == b.Version &&
		docs.Same(a.Source, b.Source) &&
		slices.Equal(a.Rules, b.Rules) &&
		slices.Equal(a.Langs, b.Langs) &&
		slices.Equal(a.People, b.People) &&
		slices.EqualFunc(a.Cells, b.Cells, sameCells) &&
		slices.Equal(a.Shelf, b.Shelf)
}

func sameCells(a, b []api.Cell) bool { return slices.EqualFunc(a, b, sameCell) }

func sameCell(a, b api.Cell) bool {
	return sameText(a, b) && a.Lock == b.Lock && slices.Equal(a.Others, b.Others)
}

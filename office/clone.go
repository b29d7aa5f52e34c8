package office

import (
	"slices"

	"truchman/api"
)

// clone copies an office, so that events may change it where it stands.
func clone(o api.Office) api.Office {
	o.Source.Blocks = each(o.Source.Blocks, func(b api.Block) api.Block {
		b.Pieces = slices.Clone(b.Pieces)
		return b
	})
	o.Rules = slices.Clone(o.Rules)
	o.Langs = slices.Clone(o.Langs)
	o.People = slices.Clone(o.People)
	o.Cells = each(o.Cells, cloneCells)
	o.Shelf = slices.Clone(o.Shelf)
	return o
}

func cloneCells(l []api.Cell) []api.Cell {
	return each(l, func(c api.Cell) api.Cell {
		c.Others = slices.Clone(c.Others)
		return c
	})
}

// each returns what a function makes of each element.
func each[A, B any](l []A, do func(A) B) []B {
	var out []B
	for _, x := range l {
		out = append(out, do(x))
	}
	return out
}

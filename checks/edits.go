package checks

import "truchman/api"

// Edits returns the steps that make one list of another one.
func Edits(a, b []string) ([]api.EditKind, int, api.Errno) {
	if len(a) > api.MaxWords || len(b) > api.MaxWords {
		return nil, 0, api.ErrLimit
	}
	table := distances(a, b)
	var out []api.EditKind
	for i, j := 0, 0; i < len(a) || j < len(b); {
		step := table.best(i, j)
		out = append(out, step)
		i, j = ahead(step, i, j)
	}
	return out, table.least[0][0], api.OK
}

// edits are two lists, and how many steps that are not EdKeep are needed behind a word of each.
type edits struct {
	a, b  []string
	least [][]int
}

// distances fills the table of two lists, from their ends on.
func distances(a, b []string) edits {
	t := edits{a, b, make([][]int, len(a)+1)}
	for i := len(a); i >= 0; i-- {
		t.least[i] = make([]int, len(b)+1)
		for j := len(b); j >= 0; j-- {
			if i < len(a) || j < len(b) {
				t.least[i][j], _ = t.cost(t.best(i, j), i, j)
			}
		}
	}
	return t
}

// best returns the step that comes next in the row that is least.
func (t edits) best(i, j int) api.EditKind {
	best, least := api.EdKeep, -1
	for step := api.EdKeep; step <= api.EdPut; step++ {
		if cost, ok := t.cost(step, i, j); ok && (least < 0 || cost < least) {
			best, least = step, cost
		}
	}
	return best
}

// cost returns how many steps that are not EdKeep are needed, if this one comes next; false if it may not.
func (t edits) cost(step api.EditKind, i, j int) (int, bool) {
	nextI, nextJ := ahead(step, i, j)
	if nextI > len(t.a) || nextJ > len(t.b) {
		return 0, false
	}
	if step == api.EdKeep {
		return t.least[nextI][nextJ], t.a[i] == t.b[j]
	}
	return t.least[nextI][nextJ] + 1, true
}

// ahead returns the words of both lists that come next behind a step.
func ahead(step api.EditKind, i, j int) (int, int) {
	switch step {
	case api.EdDrop:
		return i + 1, j
	case api.EdPut:
		return i, j + 1
	}
	return i + 1, j + 1
}

// Rate returns the steps for each word.
func Rate(a, b [][]string) (api.Fraction, api.Errno) {
	if e := checkSides(a, b); e != api.OK {
		return api.Fraction{}, e
	}
	var steps, words int64
	for i := range a {
		_, n, e := Edits(a[i], b[i])
		if e != api.OK {
			return api.Fraction{}, e
		}
		steps += int64(n)
		words += int64(len(b[i]))
	}
	return quotient(steps, words), api.OK
}

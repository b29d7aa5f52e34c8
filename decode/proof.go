package decode

import (
	"cmp"
	"math"

	"truchman/api"
	"truchman/morph"
)

// Prove returns all states of all items, with their costs.
func Prove(s api.System, m api.Model, words []string) ([]api.State, api.Errno) {
	j, e := newJob(s, m, words)
	if e != api.OK {
		return nil, e
	}
	t := costsOf(j)
	states := queue[api.State]{order: compareStates}
	for n := range j.Len() {
		for at, cost := range t.row(n) {
			states.put(api.State{Item: n, First: at.first, Last: at.last, Cost: cost})
		}
		if states.Len() > api.MaxStates {
			return nil, api.ErrLimit
		}
	}
	var out []api.State
	for states.Len() > 0 {
		out = append(out, states.take())
	}
	return out, api.OK
}

func compareStates(a, b api.State) int {
	return cmp.Or(cmp.Compare(a.Item, b.Item), cmp.Compare(a.First, b.First), cmp.Compare(a.Last, b.Last))
}

// Bound returns the bound of a closed proof; false if no state of a goal is listed.
func Bound(s api.System, m api.Model, words []string, proof []api.State) (bound int, found bool, e api.Errno) {
	j, e := newJob(s, m, words)
	if e != api.OK {
		return 0, false, e
	}
	if len(proof) > api.MaxStates {
		return 0, false, api.ErrLimit
	}
	listed, ok := j.listed(proof)
	if !ok || !j.isClosed(listed) {
		return 0, false, api.ErrState
	}
	bound, found = costsOf(j).total(func(n int) row[int] { return listed[n] })
	return bound, found, api.OK
}

// listed returns the costs that a proof lists for each item; false if a state of it is not allowed, or does not come behind the one before it.
func (j *job) listed(proof []api.State) ([]row[int], bool) {
	out := make([]row[int], j.Len())
	for n := range out {
		out[n] = row[int]{}
	}
	for i, x := range proof {
		if !j.allows(x) || i > 0 && compareStates(proof[i-1], x) >= 0 {
			return nil, false
		}
		out[x.Item][ends{x.First, x.Last}] = x.Cost
	}
	return out, true
}

// allows reports whether a state by itself may stand in a proof.
func (j *job) allows(x api.State) bool {
	silent := x.First == "" && x.Last == ""
	return x.Item >= 0 && x.Item < j.Len() && (silent || morph.Word(x.First) && morph.Word(x.Last)) &&
		x.Cost >= 0 && x.Cost <= math.MaxInt32
}

// isClosed reports whether all that comes of listed states is listed, at no greater cost.
func (j *job) isClosed(listed []row[int]) bool {
	t := costsOf(j)
	closed := true
proof:
	for n := range listed {
		for at, cost := range t.made(n, func(n int) row[int] { return listed[n] }) {
			if x, ok := listed[n][at]; !ok || x > cost {
				closed = false
				break proof
			}
		}
	}
	return closed
}

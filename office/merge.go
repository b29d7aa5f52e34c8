package office

import (
	"cmp"
	"slices"

	"truchman/api"
	"truchman/docs"
)

// merging is two sessions that went on from a base, all three with the same source, and what comes of them.
type merging struct {
	base, a, b *session
	out        api.Office
	conflicts  []api.Conflict
}

// Merge puts two sessions together that went on from a base.
func Merge(base, a, b api.Office) (api.Office, []api.Conflict, api.Errno) {
	m, e := newMerging(base, a, b)
	if e != api.OK {
		return api.Office{}, nil, e
	}
	m.out = api.Office{
		Version: max(a.Version, b.Version),
		Source:  m.a.Source,
		Rules:   m.a.Rules,
		Langs:   sorted(slices.Concat(m.a.Langs, m.b.Langs), cmp.Compare[string]),
		People:  sorted(slices.Concat(m.a.People, m.b.People), comparePeople),
		Shelf:   sorted(slices.Concat(m.a.Shelf, m.b.Shelf), compareShelved),
	}
	for _, lang := range m.out.Langs {
		m.out.Cells = append(m.out.Cells, m.cells(lang))
	}
	if isAbove(m.out) {
		return api.Office{}, nil, api.ErrLimit
	}
	return m.out, m.conflicts, api.OK
}

// newMerging updates three offices to the source that they are merged to.
func newMerging(base, a, b api.Office) (*merging, api.Errno) {
	var three [3]*session
	for i, o := range [...]api.Office{base, a, b} {
		s, e := open(o)
		if e != api.OK {
			return nil, e
		}
		three[i] = s
	}
	if e := checkThree(base, a, b); e != api.OK {
		return nil, e
	}
	to := three[1]
	if docs.Same(a.Source, base.Source) {
		to = three[2]
	}
	source, segments := to.Source, to.segments
	for i, s := range three {
		if docs.Same(s.Source, source) {
			continue
		}
		// An EvSource would be refused here, also one of the base, whose shelf is not in what comes.
		three[i] = s.updated(source, segments)
		if isAbove(three[i].Office) {
			return nil, api.ErrLimit
		}
	}
	return &merging{base: three[0], a: three[1], b: three[2]}, api.OK
}

// checkThree returns the error of offices that cannot be merged.
func checkThree(base, a, b api.Office) api.Errno {
	if a.Version < base.Version || b.Version < base.Version {
		return api.ErrArg
	}
	if !slices.Equal(a.Rules, base.Rules) || !slices.Equal(b.Rules, base.Rules) {
		return api.ErrArg
	}
	if !docs.Same(a.Source, b.Source) && !docs.Same(a.Source, base.Source) && !docs.Same(b.Source, base.Source) {
		return api.ErrClash
	}
	return api.OK
}

// cells returns the merged cells of a language.
func (m *merging) cells(lang string) []api.Cell {
	base, a, b := m.base.cellsOf(lang), m.a.cellsOf(lang), m.b.cellsOf(lang)
	out := make([]api.Cell, len(a))
	for i := range out {
		kept, lost, conflict := choose(base[i], a[i], b[i])
		if conflict {
			m.conflicts = append(m.conflicts, api.Conflict{Lang: lang, Segment: i, Kept: kept.Text, Lost: lost.Text})
		}
		kept.Others = gathered(kept, a[i].Others, b[i].Others, leaving(lost))
		kept.Lock = chooseLock(base[i].Lock, a[i].Lock, b[i].Lock)
		out[i] = kept
	}
	return out
}

// cellsOf returns the cells of a language, empty ones if there is no such language.
func (s *session) cellsOf(lang string) []api.Cell {
	if at := slices.Index(s.Langs, lang); at >= 0 {
		return s.Cells[at]
	}
	return make([]api.Cell, len(s.segments))
}

// choose returns the cell whose text is kept, and if there is a conflict the one whose text is not.
func choose(base, a, b api.Cell) (kept, lost api.Cell, conflict bool) {
	switch {
	case sameText(a, base):
		return b, api.Cell{}, false
	case sameText(b, base) || sameText(a, b):
		return a, api.Cell{}, false
	case compareTexts(a, b) > 0:
		return a, b, true
	default:
		return b, a, true
	}
}

func chooseLock(base, a, b string) string {
	switch {
	case a == b:
		return a
	case a == base:
		return b
	case b == base:
		return a
	}
	return ""
}

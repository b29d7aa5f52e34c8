package office

import (
	"slices"
	"strings"
	"sync"

	"truchman/api"
	"truchman/checks"
	"truchman/docs"
)

// origin says from which old segment a new one comes, -1 if from none, and whether it is kept.
type origin struct {
	from int
	kept bool
}

// origins compares segments by their forms.
func origins(old, forms []string) []origin {
	// There are fewer segments than words that checks.Edits takes.
	steps, _, _ := checks.Edits(old, forms)
	var out []origin
	at := 0
	for _, step := range steps {
		if step == api.EdPut {
			out = append(out, origin{from: -1})
			continue
		}
		if step != api.EdDrop {
			out = append(out, origin{at, step == api.EdKeep})
		}
		at++
	}
	return out
}

func formsOf(l []api.Segment) []string {
	return each(l, func(s api.Segment) string { return formOf(s.Pieces) })
}

// formOf returns the written form of valid pieces, however long it is. docs.Write refuses what is longer than a text, but Check accepts sources with such segments.
func formOf(l []api.Piece) string {
	tags, _ := docs.Tags(l)
	escape := strings.NewReplacer(`\`, `\\`, `<`, `\<`, `{`, `\{`)
	var out strings.Builder
	for _, p := range l {
		switch p.Kind {
		case api.PiText:
			out.WriteString(escape.Replace(p.Text))
		case api.PiHole:
			out.WriteString("{" + p.Text + "}")
		default:
			out.WriteString(tags[0])
			tags = tags[1:]
		}
	}
	return out.String()
}

// update is what all languages need to go over to a new source.
type update struct {
	old, forms []string // of the old and the new segments
	origins    []origin // of the new segments
	kept       []bool   // which old segments are
}

func newUpdate(old, segments []api.Segment) update {
	u := update{old: formsOf(old), forms: formsOf(segments), kept: make([]bool, len(old))}
	u.origins = origins(u.old, u.forms)
	for _, x := range u.origins {
		if x.kept {
			u.kept[x.from] = true
		}
	}
	return u
}

// page is what an office has of one language.
type page struct {
	lang  string
	cells []api.Cell
	shelf []api.Shelved
}

// updated returns a session that goes on with a new source. It has memory in common with this one, which is left as it is.
func (s *session) updated(source api.Document, segments []api.Segment) *session {
	u := newUpdate(s.segments, segments)
	pages := make([]page, len(s.Langs))
	var working sync.WaitGroup
	for i, lang := range s.Langs {
		working.Add(1)
		go func() {
			defer working.Done()
			pages[i] = u.turn(page{lang, s.Cells[i], shelfOf(s.Shelf, lang)})
		}()
	}
	working.Wait()
	next := &session{s.Office, segments}
	next.Source, next.Cells, next.Shelf = source, nil, nil
	for _, p := range pages {
		next.Cells = append(next.Cells, p.cells)
		next.Shelf = append(next.Shelf, p.shelf...)
	}
	return next
}

// shelfOf returns what the shelf has for a language, in memory of its own.
func shelfOf(l []api.Shelved, lang string) []api.Shelved {
	return slices.DeleteFunc(slices.Clone(l), func(x api.Shelved) bool { return x.Lang != lang })
}

// turn updates what there is of a language.
func (u update) turn(p page) page {
	for i, c := range p.cells {
		if isDone(c) && !u.kept[i] {
			p.shelf = append(p.shelf, api.Shelved{Lang: p.lang, Source: u.old[i], Text: c.Text, Author: c.Author, Reviewer: c.Reviewer, Since: c.Since})
		}
	}
	p.shelf = sorted(p.shelf, compareShelved)
	var cells []api.Cell
	for i := range u.origins {
		cells = append(cells, u.cell(p, i))
	}
	return page{p.lang, cells, p.shelf}
}

// cell returns the cell of a new segment, from a page with the old cells and the new shelf.
func (u update) cell(p page, segment int) api.Cell {
	x := u.origins[segment]
	if x.kept {
		return p.cells[x.from]
	}
	at := slices.IndexFunc(p.shelf, func(s api.Shelved) bool { return s.Source == u.forms[segment] })
	if at >= 0 {
		s := p.shelf[at]
		return api.Cell{State: api.CeApproved, Text: s.Text, Author: s.Author, Reviewer: s.Reviewer, Since: s.Since}
	}
	if x.from < 0 || isEmpty(p.cells[x.from]) {
		return api.Cell{}
	}
	c := p.cells[x.from]
	c.Stale, c.Lock = true, ""
	return c
}

// sorted returns a list in order, equal elements once. It works in the list's own memory.
func sorted[T comparable](l []T, compare func(a, b T) int) []T {
	slices.SortFunc(l, compare)
	return slices.Compact(l)
}

// isAbove reports whether something of an office is above a limit of Check.
func isAbove(o api.Office) bool {
	return len(o.Langs) > api.MaxLangs ||
		len(o.People) > api.MaxPeople ||
		slices.ContainsFunc(o.Cells, hasManyOthers) ||
		len(o.Shelf) > api.MaxShelf ||
		slices.ContainsFunc(o.Shelf, isLong)
}

func hasManyOthers(l []api.Cell) bool {
	return slices.ContainsFunc(l, func(c api.Cell) bool { return len(c.Others) > api.MaxOthers })
}

// isLong reports whether a text on the shelf is for a segment whose form is too long to be read again.
func isLong(x api.Shelved) bool { return len(x.Source) > api.MaxText }

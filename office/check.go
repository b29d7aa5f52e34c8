package office

import (
	"slices"

	"truchman/api"
	"truchman/docs"
)

// Check returns the first error of an office.
func Check(o api.Office) api.Errno {
	_, e := check(o)
	return e
}

// check returns the segments of an office, or its first error.
func check(o api.Office) ([]api.Segment, api.Errno) {
	if !isVersion(o.Version, api.MaxVersion) {
		return nil, api.ErrArg
	}
	segments, e := segmentsOf(o.Source, o.Rules)
	if e != api.OK {
		return nil, e
	}
	c := checker{office: o}
	for _, s := range segments {
		c.tags = append(c.tags, sortedTags(s.Pieces))
	}
	for _, part := range [...]func(checker) api.Errno{checker.langs, checker.people, checker.cells, checker.shelf} {
		if e := part(c); e != api.OK {
			return nil, e
		}
	}
	return segments, api.OK
}

func isVersion(n, last int) bool { return 0 <= n && n <= last }

// segmentsOf returns the segments of a source, or the error of it or its rules, or that there are too many.
func segmentsOf(source api.Document, rules []api.Break) ([]api.Segment, api.Errno) {
	segments, e := docs.Segments(source, rules)
	if e != api.OK {
		return nil, e
	}
	if len(segments) > api.MaxSegments {
		return nil, api.ErrLimit
	}
	return segments, api.OK
}

// isName asks docs whether a string is a name, which knows it by its errors alone.
func isName(s string) bool {
	return docs.CheckPieces([]api.Piece{{Kind: api.PiHole, Text: s}}) == api.OK
}

// sortedTags returns the tags of valid pieces, so that they are equal just for the same tags, each as often.
func sortedTags(l []api.Piece) []string {
	tags, _ := docs.Tags(l)
	slices.Sort(tags)
	return tags
}

// readTags returns the sorted tags of a written form, or docs.Read's error.
func readTags(text string) ([]string, api.Errno) {
	l, e := docs.Read(text)
	if e != api.OK {
		return nil, e
	}
	return sortedTags(l), api.OK
}

func isForm(text string) bool {
	_, e := docs.Read(text)
	return e == api.OK
}

// checker goes over the lists of an office whose source and rules have no error.
type checker struct {
	office api.Office
	tags   [][]string // of each segment, sorted
}

func (c checker) langs() api.Errno {
	if len(c.office.Langs) > api.MaxLangs {
		return api.ErrLimit
	}
	for i, lang := range c.office.Langs {
		if !isName(lang) {
			return api.ErrName
		}
		if i > 0 && lang <= c.office.Langs[i-1] {
			return api.ErrTwice
		}
	}
	return api.OK
}

func (c checker) people() api.Errno {
	if len(c.office.People) > api.MaxPeople {
		return api.ErrLimit
	}
	for i, p := range c.office.People {
		if !slices.Contains(c.office.Langs, p.Lang) {
			return api.ErrNone
		}
		if !isName(p.Name) {
			return api.ErrName
		}
		if !isRole(p.Role) {
			return api.ErrArg
		}
		if i > 0 && comparePeople(c.office.People[i-1], p) >= 0 {
			return api.ErrTwice
		}
	}
	return api.OK
}

func isRole(r api.Role) bool { return r == api.RoTranslator || r == api.RoReviewer }

// hasRole reports whether somebody has some role in a language.
func hasRole(people []api.Person, lang, name string) bool {
	return slices.ContainsFunc(people, func(p api.Person) bool { return p.Lang == lang && p.Name == name })
}

func (c checker) cells() api.Errno {
	if len(c.office.Cells) != len(c.office.Langs) {
		return api.ErrArg
	}
	for _, row := range c.office.Cells {
		if len(row) != len(c.tags) {
			return api.ErrArg
		}
	}
	for n, row := range c.office.Cells {
		for segment, x := range row {
			if e := c.cell(c.office.Langs[n], segment, x); e != api.OK {
				return e
			}
		}
	}
	return api.OK
}

func (c checker) cell(lang string, segment int, x api.Cell) api.Errno {
	if e := c.text(segment, x); e != api.OK {
		return e
	}
	if x.Lock != "" && !hasRole(c.office.People, lang, x.Lock) {
		return api.ErrScope
	}
	return checkOthers(x)
}

// text returns the first error of what a cell is, but for its Lock and its Others.
func (c checker) text(segment int, x api.Cell) api.Errno {
	if x.State > api.CeApproved {
		return api.ErrArg
	}
	if isEmpty(x) {
		if !sameText(x, api.Cell{}) {
			return api.ErrArg
		}
		return api.OK
	}
	tags, e := readTags(x.Text)
	if e != api.OK {
		return api.ErrForm
	}
	if !isName(x.Author) {
		return api.ErrName
	}
	if !isVersion(x.Since, c.office.Version) {
		return api.ErrArg
	}
	if !fitsState(x.Reviewer, x.State) {
		return api.ErrName
	}
	if x.Reviewer == x.Author {
		return api.ErrClash
	}
	if !x.Stale && !slices.Equal(tags, c.tags[segment]) {
		return api.ErrClash
	}
	return api.OK
}

// fitsState reports whether there is a reviewer just if there has been a review.
func fitsState(reviewer string, state api.CellState) bool {
	if state == api.CeDraft {
		return reviewer == ""
	}
	return isName(reviewer)
}

func checkOthers(x api.Cell) api.Errno {
	if len(x.Others) > api.MaxOthers {
		return api.ErrLimit
	}
	for i, other := range x.Others {
		if !isForm(other.Text) {
			return api.ErrForm
		}
		if !isName(other.Author) {
			return api.ErrName
		}
		if i > 0 && compareOthers(x.Others[i-1], other) >= 0 || isOwn(x, other) {
			return api.ErrTwice
		}
	}
	return api.OK
}

func (c checker) shelf() api.Errno {
	if len(c.office.Shelf) > api.MaxShelf {
		return api.ErrLimit
	}
	for i, x := range c.office.Shelf {
		if e := c.shelved(x); e != api.OK {
			return e
		}
		if i > 0 && compareShelved(c.office.Shelf[i-1], x) >= 0 {
			return api.ErrTwice
		}
	}
	return api.OK
}

// shelved returns the first error that a text on the shelf has by itself.
func (c checker) shelved(x api.Shelved) api.Errno {
	if !slices.Contains(c.office.Langs, x.Lang) {
		return api.ErrNone
	}
	source, e := readTags(x.Source)
	if e != api.OK {
		return api.ErrForm
	}
	tags, e := readTags(x.Text)
	if e != api.OK {
		return api.ErrForm
	}
	if !isName(x.Author) || !isName(x.Reviewer) {
		return api.ErrName
	}
	if x.Author == x.Reviewer || !slices.Equal(tags, source) {
		return api.ErrClash
	}
	if !isVersion(x.Since, c.office.Version) {
		return api.ErrArg
	}
	return api.OK
}

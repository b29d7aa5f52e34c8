package office_test

import (
	"cmp"
	"slices"
	"strings"

	"truchman/api"
	"truchman/checks"
	"truchman/docs"
)

// What the chapter says, worked out in the plainest way. Offices that come in are valid, but for plainCheck.

func plainShelved(a, b api.Shelved) int {
	return cmp.Or(
		cmp.Compare(a.Lang, b.Lang), cmp.Compare(a.Source, b.Source), cmp.Compare(a.Text, b.Text),
		cmp.Compare(a.Author, b.Author), cmp.Compare(a.Reviewer, b.Reviewer), cmp.Compare(a.Since, b.Since),
	)
}

func plainPerson(a, b api.Person) int {
	return cmp.Or(cmp.Compare(a.Lang, b.Lang), cmp.Compare(a.Name, b.Name), cmp.Compare(a.Role, b.Role))
}

func plainOther(a, b api.Other) int {
	return cmp.Or(cmp.Compare(a.Text, b.Text), cmp.Compare(a.Author, b.Author))
}

func plainName(s string) bool {
	for i, r := range s {
		if (r < 'a' || r > 'z') && (i == 0 || r != '-' && (r < '0' || r > '9')) {
			return false
		}
	}
	return 1 <= len(s) && len(s) <= api.MaxTagName
}

// plainTags counts the tags of a written form; false if it is none.
func plainTags(text string) (map[string]int, bool) {
	l, e := docs.Read(text)
	if e != api.OK {
		return nil, false
	}
	return countTags(l), true
}

func countTags(l []api.Piece) map[string]int {
	out := map[string]int{}
	tags, _ := docs.Tags(l)
	for _, s := range tags {
		out[s]++
	}
	return out
}

func sameCounts(a, b map[string]int) bool {
	for s, n := range a {
		if b[s] != n {
			return false
		}
	}
	return len(a) == len(b)
}

func plainCheck(o api.Office) api.Errno {
	if o.Version < 0 || o.Version > api.MaxVersion {
		return api.ErrArg
	}
	if e := docs.Check(o.Source); e != api.OK {
		return e
	}
	if e := docs.CheckBreaks(o.Rules); e != api.OK {
		return e
	}
	segments, e := docs.Segments(o.Source, o.Rules)
	switch {
	case e != api.OK:
		return e
	case len(segments) > api.MaxSegments, len(o.Langs) > api.MaxLangs:
		return api.ErrLimit
	}
	for i, s := range o.Langs {
		switch {
		case !plainName(s):
			return api.ErrName
		case i > 0 && s <= o.Langs[i-1]:
			return api.ErrTwice
		}
	}
	if len(o.People) > api.MaxPeople {
		return api.ErrLimit
	}
	for i, p := range o.People {
		switch {
		case !slices.Contains(o.Langs, p.Lang):
			return api.ErrNone
		case !plainName(p.Name):
			return api.ErrName
		case p.Role != api.RoTranslator && p.Role != api.RoReviewer:
			return api.ErrArg
		case i > 0 && plainPerson(o.People[i-1], p) >= 0:
			return api.ErrTwice
		}
	}
	if len(o.Cells) != len(o.Langs) {
		return api.ErrArg
	}
	for _, row := range o.Cells {
		if len(row) != len(segments) {
			return api.ErrArg
		}
	}
	for i, row := range o.Cells {
		for j, c := range row {
			if e := plainCheckCell(o, o.Langs[i], segments[j], c); e != api.OK {
				return e
			}
		}
	}
	return plainCheckShelf(o)
}

func plainCheckShelf(o api.Office) api.Errno {
	if len(o.Shelf) > api.MaxShelf {
		return api.ErrLimit
	}
	for i, x := range o.Shelf {
		source, ok := plainTags(x.Source)
		text, ok2 := plainTags(x.Text)
		switch {
		case !slices.Contains(o.Langs, x.Lang):
			return api.ErrNone
		case !ok || !ok2:
			return api.ErrForm
		case !plainName(x.Author) || !plainName(x.Reviewer):
			return api.ErrName
		case x.Author == x.Reviewer || !sameCounts(source, text):
			return api.ErrClash
		case x.Since < 0 || x.Since > o.Version:
			return api.ErrArg
		case i > 0 && plainShelved(o.Shelf[i-1], x) >= 0:
			return api.ErrTwice
		}
	}
	return api.OK
}

func plainCheckCell(o api.Office, lang string, s api.Segment, c api.Cell) api.Errno {
	tags, ok := plainTags(c.Text)
	isEmpty := c.State == api.CeEmpty
	switch {
	case c.State > api.CeApproved:
		return api.ErrArg
	case isEmpty && (c.Text != "" || c.Author != "" || c.Reviewer != "" || c.Since != 0 || c.Stale):
		return api.ErrArg
	case isEmpty:
	case !ok:
		return api.ErrForm
	case !plainName(c.Author):
		return api.ErrName
	case c.Since < 0 || c.Since > o.Version:
		return api.ErrArg
	case c.State == api.CeDraft && c.Reviewer != "", c.State != api.CeDraft && !plainName(c.Reviewer):
		return api.ErrName
	case c.Reviewer == c.Author:
		return api.ErrClash
	case !c.Stale && !sameCounts(tags, countTags(s.Pieces)):
		return api.ErrClash
	}
	if c.Lock != "" && !plainRole(o, lang, c.Lock, api.RoTranslator) && !plainRole(o, lang, c.Lock, api.RoReviewer) {
		return api.ErrScope
	}
	if len(c.Others) > api.MaxOthers {
		return api.ErrLimit
	}
	for i, x := range c.Others {
		_, ok := plainTags(x.Text)
		switch {
		case !ok:
			return api.ErrForm
		case !plainName(x.Author):
			return api.ErrName
		case i > 0 && plainOther(c.Others[i-1], x) >= 0, !isEmpty && c.Text == x.Text && c.Author == x.Author:
			return api.ErrTwice
		}
	}
	return api.OK
}

func plainRole(o api.Office, lang, who string, role api.Role) bool {
	for _, p := range o.People {
		if p.Lang == lang && p.Name == who && p.Role == role {
			return true
		}
	}
	return false
}

// plainApply does an event to a valid office.
func plainApply(o api.Office, x api.Event) (api.Office, api.Errno) {
	o = copied(o)
	switch x.Kind {
	case api.EvSource:
		return plainSource(o, x.Text)
	case api.EvLanguage:
		switch {
		case !plainName(x.Lang):
			return o, api.ErrName
		case slices.Contains(o.Langs, x.Lang):
			return o, api.ErrTwice
		case len(o.Langs) == api.MaxLangs:
			return o, api.ErrLimit
		}
		segments, _ := docs.Segments(o.Source, o.Rules)
		at := 0
		for at < len(o.Langs) && o.Langs[at] < x.Lang {
			at++
		}
		o.Langs = slices.Insert(o.Langs, at, x.Lang)
		o.Cells = slices.Insert(o.Cells, at, make([]api.Cell, len(segments)))
		return o, api.OK
	case api.EvPerson:
		p := api.Person{Lang: x.Lang, Name: x.Who, Role: x.Role}
		switch {
		case !slices.Contains(o.Langs, x.Lang):
			return o, api.ErrNone
		case !plainName(x.Who):
			return o, api.ErrName
		case x.Role != api.RoTranslator && x.Role != api.RoReviewer:
			return o, api.ErrArg
		case slices.Contains(o.People, p):
			return o, api.ErrTwice
		case len(o.People) == api.MaxPeople:
			return o, api.ErrLimit
		}
		o.People = append(o.People, p)
		slices.SortFunc(o.People, plainPerson)
		return o, api.OK
	case api.EvLock, api.EvFree, api.EvEdit, api.EvApprove, api.EvReject, api.EvReopen, api.EvPick:
		return plainCellEvent(o, x)
	}
	return o, api.ErrArg
}

// plainCellEvent does an event to a cell of an office, in its memory.
func plainCellEvent(o api.Office, x api.Event) (api.Office, api.Errno) {
	segments, _ := docs.Segments(o.Source, o.Rules)
	at := slices.Index(o.Langs, x.Lang)
	if at < 0 || x.Segment < 0 || x.Segment >= len(segments) {
		return o, api.ErrNone
	}
	c := &o.Cells[at][x.Segment]
	translates, reviews := plainRole(o, x.Lang, x.Who, api.RoTranslator), plainRole(o, x.Lang, x.Who, api.RoReviewer)
	has, free := c.Lock == x.Who && c.Lock != "", c.Lock == ""
	fresh := !c.Stale
	switch x.Kind {
	case api.EvLock:
		switch {
		case !translates && !reviews:
			return o, api.ErrScope
		case !has && !free:
			return o, api.ErrState
		case has:
			return o, api.ErrTwice
		}
		c.Lock = x.Who
	case api.EvFree:
		if !has {
			return o, api.ErrState
		}
		c.Lock = ""
	case api.EvEdit, api.EvPick:
		switch {
		case !translates:
			return o, api.ErrScope
		case !has, c.State == api.CeApproved && fresh:
			return o, api.ErrState
		}
		return o, plainText(o, c, x, countTags(segments[x.Segment].Pieces))
	case api.EvApprove, api.EvReject:
		switch {
		case !reviews:
			return o, api.ErrScope
		case c.State != api.CeDraft || !fresh, !has && !free:
			return o, api.ErrState
		case c.Author == x.Who:
			return o, api.ErrClash
		}
		c.State, c.Reviewer = api.CeApproved, x.Who
		if x.Kind == api.EvReject {
			c.State = api.CeRejected
		}
	case api.EvReopen:
		switch {
		case !reviews:
			return o, api.ErrScope
		case c.State != api.CeApproved && c.State != api.CeRejected:
			return o, api.ErrState
		}
		c.State, c.Reviewer = api.CeDraft, ""
	}
	return o, api.OK
}

// plainText puts the text of an event into a cell of a segment with these tags.
func plainText(o api.Office, c *api.Cell, x api.Event, tags map[string]int) api.Errno {
	text, author := x.Text, x.Who
	if x.Kind == api.EvPick {
		if x.Number < 0 || x.Number >= len(c.Others) {
			return api.ErrNone
		}
		text, author = c.Others[x.Number].Text, c.Others[x.Number].Author
	} else if _, e := docs.Read(text); e != api.OK {
		return e
	}
	if new, _ := plainTags(text); !sameCounts(new, tags) {
		return api.ErrClash
	}
	old := *c
	*c = api.Cell{State: api.CeDraft, Text: text, Author: author, Since: o.Version, Lock: old.Lock}
	c.Others = plainOthers(*c, old.Others, old)
	if len(c.Others) > api.MaxOthers {
		return api.ErrLimit
	}
	return api.OK
}

// plainOthers are the Others of a cell, of these and of the text that a cell loses.
func plainOthers(c api.Cell, l []api.Other, lost api.Cell) []api.Other {
	approved := map[[2]string]bool{}
	put := func(text, author string, is bool) {
		if c.State == api.CeEmpty || text != c.Text || author != c.Author {
			key := [2]string{text, author}
			approved[key] = approved[key] || is
		}
	}
	for _, x := range l {
		put(x.Text, x.Author, x.Approved)
	}
	if lost.State != api.CeEmpty {
		put(lost.Text, lost.Author, lost.State == api.CeApproved)
	}
	var out []api.Other
	for key, is := range approved {
		out = append(out, api.Other{Text: key[0], Author: key[1], Approved: is})
	}
	slices.SortFunc(out, plainOther)
	return out
}

func plainSource(o api.Office, text string) (api.Office, api.Errno) {
	d, _, e := docs.Parse(text)
	if e != api.OK {
		return o, e
	}
	segments, e := docs.Segments(d, o.Rules)
	if e != api.OK {
		return o, e
	}
	if len(segments) > api.MaxSegments || o.Version == api.MaxVersion {
		return o, api.ErrLimit
	}
	out := plainUpdate(o, d)
	out.Version++
	if len(out.Shelf) > api.MaxShelf {
		return o, api.ErrLimit
	}
	return out, api.OK
}

func plainForms(d api.Document, rules []api.Break) []string {
	segments, _ := docs.Segments(d, rules)
	var out []string
	for _, s := range segments {
		text, _ := docs.Write(s.Pieces)
		out = append(out, text)
	}
	return out
}

// plainOrigins returns from where new segments come, and which are kept.
func plainOrigins(old, new []string) (from []int, kept []bool) {
	steps, _, _ := checks.Edits(old, new)
	i := 0
	for _, step := range steps {
		switch step {
		case api.EdKeep:
			from, kept = append(from, i), append(kept, true)
			i++
		case api.EdSwap:
			from, kept = append(from, i), append(kept, false)
			i++
		case api.EdDrop:
			i++
		case api.EdPut:
			from, kept = append(from, -1), append(kept, false)
		}
	}
	return from, kept
}

// plainUpdate is an update without counting, and without limits.
func plainUpdate(o api.Office, d api.Document) api.Office {
	out := copied(o)
	old, new := plainForms(o.Source, o.Rules), plainForms(d, o.Rules)
	from, kept := plainOrigins(old, new)
	out.Source = d
	on := map[api.Shelved]bool{}
	for _, x := range o.Shelf {
		on[x] = true
	}
	for i, lang := range o.Langs {
		for j, c := range o.Cells[i] {
			keeps := false
			for k := range from {
				keeps = keeps || from[k] == j && kept[k]
			}
			if c.State == api.CeApproved && !c.Stale && !keeps {
				on[api.Shelved{Lang: lang, Source: old[j], Text: c.Text, Author: c.Author, Reviewer: c.Reviewer, Since: c.Since}] = true
			}
		}
	}
	out.Shelf = nil
	for x := range on {
		out.Shelf = append(out.Shelf, x)
	}
	slices.SortFunc(out.Shelf, plainShelved)
	for i, lang := range o.Langs {
		out.Cells[i] = nil
		for k, form := range new {
			out.Cells[i] = append(out.Cells[i], plainUpdated(copied(o).Cells[i], out.Shelf, lang, form, from[k], kept[k]))
		}
	}
	return out
}

// plainUpdated is the cell of a new segment.
func plainUpdated(cells []api.Cell, l []api.Shelved, lang, form string, from int, kept bool) api.Cell {
	if kept {
		return cells[from]
	}
	for _, x := range l {
		if x.Lang == lang && x.Source == form {
			return approved(x.Text, x.Author, x.Reviewer, x.Since)
		}
	}
	if from >= 0 && cells[from].State != api.CeEmpty {
		return locked(stale(cells[from]), "")
	}
	return api.Cell{}
}

// plainMerge merges valid offices.
func plainMerge(base, a, b api.Office) (api.Office, []api.Conflict, api.Errno) {
	switch {
	case a.Version < base.Version, b.Version < base.Version, !slices.Equal(base.Rules, a.Rules), !slices.Equal(base.Rules, b.Rules):
		return api.Office{}, nil, api.ErrArg
	case !docs.Same(a.Source, b.Source) && !docs.Same(a.Source, base.Source) && !docs.Same(b.Source, base.Source):
		return api.Office{}, nil, api.ErrClash
	}
	to := b.Source
	if !docs.Same(a.Source, base.Source) {
		to = a.Source
	}
	for _, o := range []*api.Office{&base, &a, &b} {
		if !docs.Same(o.Source, to) {
			*o = plainUpdate(*o, to)
		}
	}
	out := api.Office{Version: max(a.Version, b.Version), Source: to, Rules: a.Rules}
	out.Langs = union(a.Langs, b.Langs, strings.Compare)
	out.People = union(a.People, b.People, plainPerson)
	out.Shelf = union(a.Shelf, b.Shelf, plainShelved)
	var conflicts []api.Conflict
	above := len(base.Shelf) > api.MaxShelf || len(out.Shelf) > api.MaxShelf || len(out.Langs) > api.MaxLangs || len(out.People) > api.MaxPeople
	for _, lang := range out.Langs {
		var row []api.Cell
		for i := range plainForms(to, a.Rules) {
			c, lost, clash := plainMergeCell(cellAt(base, lang, i), cellAt(a, lang, i), cellAt(b, lang, i))
			if clash {
				conflicts = append(conflicts, api.Conflict{Lang: lang, Segment: i, Kept: c.Text, Lost: lost})
			}
			above = above || len(c.Others) > api.MaxOthers
			row = append(row, c)
		}
		out.Cells = append(out.Cells, row)
	}
	if above {
		return api.Office{}, nil, api.ErrLimit
	}
	return out, conflicts, api.OK
}

func union[T comparable](a, b []T, order func(a, b T) int) []T {
	var out []T
	for _, x := range slices.Concat(a, b) {
		if !slices.Contains(out, x) {
			out = append(out, x)
		}
	}
	slices.SortFunc(out, order)
	return out
}

// cellAt is the cell of a language and a segment, an empty one if there is no such language.
func cellAt(o api.Office, lang string, segment int) api.Cell {
	if at := slices.Index(o.Langs, lang); at >= 0 {
		return o.Cells[at][segment]
	}
	return api.Cell{}
}

// plainMergeCell returns the merged cell, and the text that is lost if there is a conflict.
func plainMergeCell(base, a, b api.Cell) (c api.Cell, lost string, clash bool) {
	var less api.Cell
	switch {
	case textOf(a) == textOf(base):
		c = b
	case textOf(b) == textOf(base), textOf(b) == textOf(a):
		c = a
	default:
		c, less, clash = a, b, true
		if plainGreater(b, a) {
			c, less = b, a
		}
	}
	c.Others = plainOthers(c, slices.Concat(a.Others, b.Others), less)
	switch {
	case a.Lock == b.Lock:
		c.Lock = a.Lock
	case a.Lock == base.Lock:
		c.Lock = b.Lock
	case b.Lock == base.Lock:
		c.Lock = a.Lock
	default:
		c.Lock = ""
	}
	return c, less.Text, clash
}

// plainGreater reports whether the text of a is the greater one.
func plainGreater(a, b api.Cell) bool {
	switch {
	case isDone(a) != isDone(b):
		return isDone(a)
	case a.State != b.State:
		return a.State > b.State
	case a.Stale != b.Stale:
		return b.Stale
	case a.Text != b.Text:
		return a.Text < b.Text
	case a.Author != b.Author:
		return a.Author < b.Author
	case a.Reviewer != b.Reviewer:
		return a.Reviewer < b.Reviewer
	}
	return a.Since > b.Since
}

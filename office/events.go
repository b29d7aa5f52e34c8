package office

import (
	"slices"

	"truchman/api"
	"truchman/docs"
)

// refusal is the error with which an event is left, ahead of its first change.
type refusal api.Errno

func (r refusal) Error() string { return "the event is refused" }

// refuse leaves an event if there is a reason to.
func refuse(reason bool, e api.Errno) {
	if reason {
		panic(refusal(e))
	}
}

// deeds are what events do, by the numbers of their kinds.
func deeds() [api.EvPick + 1]func(*session, api.Event) {
	return [...]func(*session, api.Event){
		api.EvSource:   (*session).takeSource,
		api.EvLanguage: (*session).addLanguage,
		api.EvPerson:   (*session).addPerson,
		api.EvLock:     (*session).lock,
		api.EvFree:     (*session).free,
		api.EvEdit:     (*session).edit,
		api.EvApprove:  (*session).approve,
		api.EvReject:   (*session).reject,
		api.EvReopen:   (*session).reopen,
		api.EvPick:     (*session).pick,
	}
}

// do changes a session by an event. With an error nothing has changed.
func (s *session) do(x api.Event) (e api.Errno) {
	defer func() {
		if left := recover(); left != nil {
			e = api.Errno(left.(refusal))
		}
	}()
	refuse(x.Kind == api.EvNone || x.Kind > api.EvPick, api.ErrArg)
	deeds()[x.Kind](s, x)
	return api.OK
}

func (s *session) takeSource(x api.Event) {
	source, segments, e := readSource(x.Text, s.Rules)
	refuse(e != api.OK, e)
	refuse(s.Version == api.MaxVersion, api.ErrLimit)
	next := s.updated(source, segments)
	refuse(isAbove(next.Office), api.ErrLimit)
	next.Version++
	*s = *next
}

// readSource returns the document of a text, with its segments.
func readSource(text string, rules []api.Break) (api.Document, []api.Segment, api.Errno) {
	source, _, e := docs.Parse(text)
	if e != api.OK {
		return api.Document{}, nil, e
	}
	segments, e := segmentsOf(source, rules)
	if e != api.OK {
		return api.Document{}, nil, e
	}
	return source, segments, api.OK
}

func (s *session) addLanguage(x api.Event) {
	refuse(!isName(x.Lang), api.ErrName)
	at, twice := slices.BinarySearch(s.Langs, x.Lang)
	refuse(twice, api.ErrTwice)
	refuse(len(s.Langs) == api.MaxLangs, api.ErrLimit)
	s.Langs = slices.Insert(s.Langs, at, x.Lang)
	s.Cells = slices.Insert(s.Cells, at, make([]api.Cell, len(s.segments)))
}

func (s *session) addPerson(x api.Event) {
	refuse(!slices.Contains(s.Langs, x.Lang), api.ErrNone)
	refuse(!isName(x.Who), api.ErrName)
	refuse(!isRole(x.Role), api.ErrArg)
	p := api.Person{Lang: x.Lang, Name: x.Who, Role: x.Role}
	at, twice := slices.BinarySearchFunc(s.People, p, comparePeople)
	refuse(twice, api.ErrTwice)
	refuse(len(s.People) == api.MaxPeople, api.ErrLimit)
	s.People = slices.Insert(s.People, at, p)
}

func (s *session) lock(x api.Event) {
	c := s.cell(x)
	refuse(!hasRole(s.People, x.Lang, x.Who), api.ErrScope)
	refuse(isLockedFrom(*c, x.Who), api.ErrState)
	refuse(isLockedBy(*c, x.Who), api.ErrTwice)
	c.Lock = x.Who
}

func (s *session) free(x api.Event) {
	c := s.cell(x)
	refuse(!isLockedBy(*c, x.Who), api.ErrState)
	c.Lock = ""
}

func (s *session) edit(x api.Event) {
	c := s.writable(x)
	tags, e := readTags(x.Text)
	refuse(e != api.OK, e)
	refuse(!s.areTags(x.Segment, tags), api.ErrClash)
	s.write(c, x.Text, x.Who)
}

func (s *session) pick(x api.Event) {
	c := s.writable(x)
	refuse(x.Number < 0 || x.Number >= len(c.Others), api.ErrNone)
	other := c.Others[x.Number]
	tags, _ := readTags(other.Text)
	refuse(!s.areTags(x.Segment, tags), api.ErrClash)
	s.write(c, other.Text, other.Author)
}

func (s *session) approve(x api.Event) { s.review(x, api.CeApproved) }

func (s *session) reject(x api.Event) { s.review(x, api.CeRejected) }

// review makes a draft what a reviewer says that it is.
func (s *session) review(x api.Event, state api.CellState) {
	c := s.cell(x)
	refuse(!s.has(x, api.RoReviewer), api.ErrScope)
	refuse(c.State != api.CeDraft || c.Stale, api.ErrState)
	refuse(isLockedFrom(*c, x.Who), api.ErrState)
	refuse(c.Author == x.Who, api.ErrClash)
	c.State, c.Reviewer = state, x.Who
}

func (s *session) reopen(x api.Event) {
	c := s.cell(x)
	refuse(!s.has(x, api.RoReviewer), api.ErrScope)
	refuse(c.State != api.CeApproved && c.State != api.CeRejected, api.ErrState)
	c.State, c.Reviewer = api.CeDraft, ""
}

// cell returns the cell that an event is about.
func (s *session) cell(x api.Event) *api.Cell {
	at := slices.Index(s.Langs, x.Lang)
	refuse(at < 0 || x.Segment < 0 || x.Segment >= len(s.segments), api.ErrNone)
	return &s.Cells[at][x.Segment]
}

// writable returns the cell that an event is about, if Who may give it a text.
func (s *session) writable(x api.Event) *api.Cell {
	c := s.cell(x)
	refuse(!s.has(x, api.RoTranslator), api.ErrScope)
	refuse(!isLockedBy(*c, x.Who), api.ErrState)
	refuse(isDone(*c), api.ErrState)
	return c
}

// has reports whether Who has a role in the language of an event.
func (s *session) has(x api.Event, role api.Role) bool {
	return slices.Contains(s.People, api.Person{Lang: x.Lang, Name: x.Who, Role: role})
}

// isLockedBy asks for a lock too, since an event may have an empty Who.
func isLockedBy(c api.Cell, who string) bool { return c.Lock != "" && c.Lock == who }

// isLockedFrom reports whether somebody else has locked a cell.
func isLockedFrom(c api.Cell, who string) bool { return c.Lock != "" && c.Lock != who }

// areTags reports whether sorted tags are those of a segment, each as often.
func (s *session) areTags(segment int, tags []string) bool {
	return slices.Equal(tags, sortedTags(s.segments[segment].Pieces))
}

// write puts a fresh draft into a cell, whose old text goes to the Others.
func (s *session) write(c *api.Cell, text, author string) {
	next := api.Cell{State: api.CeDraft, Text: text, Author: author, Since: s.Version, Lock: c.Lock}
	next.Others = gathered(next, c.Others, leaving(*c))
	refuse(len(next.Others) > api.MaxOthers, api.ErrLimit)
	*c = next
}

// leaving returns what goes to the Others when a cell loses its text.
func leaving(c api.Cell) []api.Other {
	if isEmpty(c) {
		return nil
	}
	return []api.Other{{Text: c.Text, Author: c.Author, Approved: c.State == api.CeApproved}}
}

// gathered returns the Others of a cell, of these lists: all of them but the cell's own text, those with the same text and author once.
func gathered(c api.Cell, lists ...[]api.Other) []api.Other {
	all := slices.Concat(lists...)
	slices.SortFunc(all, func(a, b api.Other) int {
		// Of equal ones the first is left over, which is to be an approved one.
		return inTurn(a, b, order[api.Other]{compare: compareOthers}, backward(yes(isApproved)))
	})
	all = slices.CompactFunc(all, func(a, b api.Other) bool { return compareOthers(a, b) == 0 })
	return slices.DeleteFunc(all, func(x api.Other) bool { return isOwn(c, x) })
}

func isApproved(x api.Other) bool { return x.Approved }

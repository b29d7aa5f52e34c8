package desk

import (
	"truchman/api"
	"truchman/office"
)

// apply lets an event happen in the office of the command, and returns the answer.
func (t *task) apply(x api.Event) string {
	o, e := office.Apply(t.offices[0], x)
	check(e)
	t.desk.things[t.words[0]] = bureau(o)
	return t.words[0] + ": done"
}

func (t *task) lang() string {
	return t.apply(api.Event{Kind: api.EvLanguage, Lang: t.words[1]})
}

func (t *task) person() string {
	return t.apply(api.Event{Kind: api.EvPerson, Who: t.words[1], Lang: t.words[2], Role: t.role})
}

func (t *task) source() string {
	return t.apply(api.Event{Kind: api.EvSource, Text: t.text()})
}

// inCell returns an event in the cell that the command names.
func (t *task) inCell(kind api.EventKind) api.Event {
	return api.Event{Kind: kind, Who: t.words[1], Lang: t.words[2], Segment: t.counts[0]}
}

func (t *task) lock() string { return t.apply(t.inCell(api.EvLock)) }

func (t *task) free() string { return t.apply(t.inCell(api.EvFree)) }

func (t *task) approve() string { return t.apply(t.inCell(api.EvApprove)) }

func (t *task) reject() string { return t.apply(t.inCell(api.EvReject)) }

func (t *task) reopen() string { return t.apply(t.inCell(api.EvReopen)) }

func (t *task) pick() string {
	x := t.inCell(api.EvPick)
	x.Number = t.counts[1]
	return t.apply(x)
}

func (t *task) edit() string { return t.write(t.lines[0]) }

// write puts a text into the cell that the command names.
func (t *task) write(text string) string {
	x := t.inCell(api.EvEdit)
	x.Text = text
	return t.apply(x)
}

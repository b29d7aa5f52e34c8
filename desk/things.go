package desk

import (
	"strconv"

	"truchman/api"
	"truchman/docs"
)

// thing is what a name stands for.
type thing interface {
	// tell returns the answer of a command that makes it.
	tell(name string) string
}

// There is a type for each kind of things.
type (
	lexicon  api.Lexicon
	system   api.System
	model    api.Model
	termbase api.Termbase
	rules    []api.Break
	ratings  []api.Rating
	bureau   api.Office
)

func (l lexicon) tell(name string) string {
	return "lexicon " + name + ": " + counted(len(l.Entries), "entries")
}

func (s system) tell(name string) string {
	return "system " + name + ": " + counted(len(s.Rules), "rules")
}

func (m model) tell(name string) string {
	return "model " + name + ": " + counted(len(m.Words), "words") + " " + counted(len(m.Pairs), "pairs")
}

func (b termbase) tell(name string) string {
	return "terms " + name + ": " + counted(len(b.Concepts), "concepts")
}

func (l rules) tell(name string) string {
	return "rules " + name + ": " + counted(len(l), "rules")
}

func (l ratings) tell(name string) string {
	return "checks " + name + ": " + counted(len(l), "checks")
}

func (o bureau) tell(name string) string {
	return "office " + name + ": " + counted(len(segmentsOf(api.Office(o))), "segments")
}

func counted(n int, what string) string { return strconv.Itoa(n) + " " + what }

// segmentsOf returns the segments of an office without an error.
func segmentsOf(o api.Office) []api.Segment {
	l, _ := docs.Segments(o.Source, o.Rules)
	return l
}

package desk

import (
	"slices"
	"strconv"
	"strings"

	"truchman/api"
	"truchman/morph"
)

// maxCount is the greatest count of a command.
const maxCount = 999999999

// task is a command that is being done: what its text says, and the things that it names, those of a kind in order.
type task struct {
	desk   *Desk
	words  []string // those behind the first one
	lines  []string // of the body, without their marks
	counts []int
	role   api.Role

	lexicons []api.Lexicon
	system   api.System
	model    api.Model
	termbase api.Termbase
	rules    []api.Break
	checks   []api.Rating
	offices  []api.Office
}

// read returns the command of a text, and the task that it is. It leaves at the first error that there is ahead of those of what the command does.
func read(d *Desk, text string) (command, *task) {
	lines := linesOf(text)
	words := strings.Split(lines[0], " ")
	c, ok := commands()[words[0]]
	refuse(!ok || slices.Contains(words, ""), api.ErrForm)
	t := &task{desk: d, words: words[1:]}
	t.readWords(c)
	t.readBody(c.body, lines[1:])
	t.findThings(c.args)
	return c, t
}

func (t *task) readWords(c command) {
	missing := len(c.args) - len(t.words)
	refuse(missing > 0 || missing < 0 && !c.more, api.ErrForm)
	for i, a := range c.args {
		switch w := t.words[i]; a {
		case anyWord:
		case aCount:
			n, ok := countOf(w)
			refuse(!ok, api.ErrForm)
			t.counts = append(t.counts, n)
		case aRole:
			t.role = roleOf(w)
			refuse(t.role == api.RoNone, api.ErrForm)
		default:
			refuse(!morph.Name(w), api.ErrForm)
		}
	}
}

// countOf returns the count that a word is; false if it is none.
func countOf(word string) (int, bool) {
	n, err := strconv.Atoi(word)
	return n, err == nil && 0 <= n && n <= maxCount && strconv.Itoa(n) == word
}

// roleOf returns the role that a word names.
func roleOf(word string) api.Role {
	switch word {
	case "translator":
		return api.RoTranslator
	case "reviewer":
		return api.RoReviewer
	}
	return api.RoNone
}

func (t *task) readBody(b body, lines []string) {
	refuse(b == noBody && len(lines) > 0 || b == oneLine && len(lines) != 1, api.ErrForm)
	for _, line := range lines {
		refuse(line == "" || line[0] != mark, api.ErrForm)
		t.lines = append(t.lines, line[1:])
	}
}

// text returns the body's text.
func (t *task) text() string {
	var out strings.Builder
	for _, line := range t.lines {
		out.WriteString(line + "\n")
	}
	return out.String()
}

// findThings looks for what the command names.
func (t *task) findThings(args []arg) {
	makes := len(args) > 0 && args[0] == newName
	refuse(makes && t.desk.things[t.words[0]] != nil, api.ErrTwice)
	for i, a := range args {
		refuse(a.isThing() && t.take(t.words[i]) != a, api.ErrNone)
	}
	refuse(makes && len(t.desk.names) == api.MaxNamed, api.ErrLimit)
}

// take adds the thing with a name to those of the task, and returns its kind; anyWord if there is none.
func (t *task) take(name string) arg {
	switch x := t.desk.things[name].(type) {
	case lexicon:
		t.lexicons = append(t.lexicons, api.Lexicon(x))
		return aLexicon
	case system:
		t.system = api.System(x)
		return aSystem
	case model:
		t.model = api.Model(x)
		return aModel
	case termbase:
		t.termbase = api.Termbase(x)
		return aTermbase
	case rules:
		t.rules = x
		return theRules
	case ratings:
		t.checks = x
		return theChecks
	case bureau:
		t.offices = append(t.offices, api.Office(x))
		return anOffice
	}
	return anyWord
}

// give puts what the command makes on the desk, and returns the answer.
func (t *task) give(x thing) string {
	name := t.words[0]
	t.desk.names = append(t.desk.names, name)
	t.desk.things[name] = x
	return x.tell(name)
}

// certify keeps a certificate, and returns how an answer cites it.
func (t *task) certify(c api.Certificate) string {
	t.desk.proofs = append(t.desk.proofs, c)
	return " [" + strconv.Itoa(len(t.desk.proofs)-1) + "]"
}

package terms_test

import (
	"fmt"
	"slices"
	"strings"
	"testing"

	"truchman/api"
	"truchman/terms"
)

// german is the text of a lexicon of another language.
const german = `vowels aeiou
trait num sg pl
class noun
slot 0 - - num=sg
slot 0 - e num=pl
entry netz noun
entry werk noun
entry weg noun
link noun - num=sg
`

// twoDomains is the text of a termbase with concepts of two domains.
const twoDomains = `domain it
domain law
domain none
concept net it
term en preferred net
term de preferred netz
term de allowed =Weg
term de forbidden web
concept work law
term en preferred work
term de forbidden werk
term de allowed werk+netz
term de allowed =Arbeit
concept both it
term en forbidden net work
term de preferred netz werk
`

func issues(t *testing.T, b api.Termbase, domain string, texts ...string) string {
	t.Helper()
	l, e := terms.Issues(b, english(), tongue("de", german), domain, pairs(texts...))
	if e != api.OK {
		t.Fatalf("Issues(%v, %s, %q): error %d", b, domain, texts, e)
	}
	return issued(l)
}

// P7.2: issues of one pair.
func TestIssuesOfPair(t *testing.T) {
	for _, x := range []struct{ pair, all, it, law string }{
		{" | ", "", "", ""},
		{"the | das", "", "", ""},
		{"the net | das Netz", "", "", ""},
		// Missing and added, once for each concept.
		{"the net | das", "0:M:0.-1@-1", "0:M:0.-1@-1", ""},
		{"net nets the net | das Netz", "0:M:0.-1@-1", "0:M:0.-1@-1", ""},
		{"the | das Netz netze", "0:A:0.-1@-1", "0:A:0.-1@-1", ""},
		{"a net | Netz das Netz", "0:A:0.-1@-1", "0:A:0.-1@-1", ""},
		{"net the works | das", "0:M:0.-1@-1 0:M:1.-1@-1", "0:M:0.-1@-1", "0:M:1.-1@-1"},
		{"work | Netz", "0:M:1.-1@-1 0:A:0.-1@-1", "0:A:0.-1@-1", "0:M:1.-1@-1"},
		{"net | Arbeit", "0:M:0.-1@-1 0:A:1.-1@-1", "0:M:0.-1@-1", "0:A:1.-1@-1"},
		// A forbidden term is told, and counts for the source, but not for the target.
		{"net | das Web", "0:M:0.-1@-1 0:F:0.3@1", "0:M:0.-1@-1 0:F:0.3@1", ""},
		{"the | das Web", "0:F:0.3@1", "0:F:0.3@1", ""},
		{"net | Web Netz web", "0:F:0.3@0 0:F:0.3@2", "0:F:0.3@0 0:F:0.3@2", ""},
		{"net works | Netz Werke", "", "", ""}, // both times one of the third concept
		{"net works | Netz", "0:M:2.-1@-1 0:A:0.-1@-1", "0:M:2.-1@-1 0:A:0.-1@-1", ""},
		{"the | Netz werk", "0:A:2.-1@-1", "0:A:2.-1@-1", ""},
		{"work | werk", "0:M:1.-1@-1 0:F:1.1@0", "", "0:M:1.-1@-1 0:F:1.1@0"},
		// The usual term: the one with the most occurrences, of several the first one.
		{"net net | Netz Weg", "0:U:0.2@1", "0:U:0.2@1", ""},
		{"net net | Weg Netz", "0:U:0.2@0", "0:U:0.2@0", ""},
		{"net net net | Weg Netz Weg", "0:U:0.1@1", "0:U:0.1@1", ""},
		{"net net net | Web Web Weg Web", "0:M:0.-1@-1 0:F:0.3@0 0:F:0.3@1 0:F:0.3@3", "0:M:0.-1@-1 0:F:0.3@0 0:F:0.3@1 0:F:0.3@3", ""},
		{"work work | Arbeit Werknetz", "0:U:1.3@0", "", "0:U:1.3@0"},
		{"work work work | Arbeit Werknetze Arbeit", "0:U:1.2@1", "", "0:U:1.2@1"},
		// By kind, then by concept, then by place.
		{
			"net work | werk web Weg Netz Arbeit das Werknetz Web Netze",
			"0:M:2.-1@-1 0:A:0.-1@-1 0:A:1.-1@-1 0:F:0.3@1 0:F:0.3@7 0:F:1.1@0 0:U:0.2@2 0:U:1.3@4",
			"0:M:2.-1@-1 0:A:0.-1@-1 0:F:0.3@1 0:F:0.3@7 0:U:0.2@2",
			"0:A:1.-1@-1 0:F:1.1@0 0:U:1.3@4",
		},
		// Places are those of bare words: tags have none, holes and marks have.
		{"net | <b>das</b> {n}, <br/><i>Web</i>", "0:M:0.-1@-1 0:F:0.3@3", "0:M:0.-1@-1 0:F:0.3@3", ""},
		{"<b>net</b> <i>work</i> | <b>Netz <br/></b>Werk", "", "", ""}, // tags part no words
		{"net-work | Netz.", "0:M:1.-1@-1", "", "0:M:1.-1@-1"},
		{"<+b>net</+b> | <+b><web/>Netz</+b>", "", "", ""},
	} {
		for domain, want := range map[string]string{"": x.all, "it": x.it, "law": x.law, "none": ""} {
			if got := issues(t, base(twoDomains), domain, x.pair); got != want {
				t.Errorf("%s, domain %q: %s, want %s", x.pair, domain, got, want)
			}
		}
	}
}

// P7.2: issues of several pairs, by these; the usual term is that of all pairs together.
func TestIssuesOfPairs(t *testing.T) {
	for _, x := range []struct {
		texts []string
		want  string
	}{
		{nil, ""},
		{[]string{" | ", "net | ", "net | Netz", " | Netz"}, "1:M:0.-1@-1 3:A:0.-1@-1"},
		{[]string{"net | Netz", "net | Weg"}, "1:U:0.2@0"},
		{[]string{"net | Weg", "net | Netz"}, "0:U:0.2@0"},
		{[]string{"net | Weg", "net | Netz", "net | Weg"}, "1:U:0.1@0"},
		{[]string{"net net | Weg Weg", "net | Netz", "net | Netz", "net | Netz"}, "0:U:0.2@0 0:U:0.2@1"},
		{[]string{"net | Web", "net | Web", "net | Weg"}, "0:M:0.-1@-1 0:F:0.3@0 1:M:0.-1@-1 1:F:0.3@0"},
		{[]string{"net | ", " | Netz"}, "0:M:0.-1@-1 1:A:0.-1@-1"}, // pairs do not make up for one another
		{[]string{"work | Arbeit", "work | Werknetz", "net | Weg", "work | Werknetz"}, "0:U:1.3@0"},
		// What stands in sources does not count for the usual term.
		{[]string{"Weg Weg Weg | ", "net | Netz", "net | Weg"}, "2:U:0.2@0"},
	} {
		if got := issues(t, base(twoDomains), "", x.texts...); got != x.want {
			t.Errorf("%q: %s, want %s", x.texts, got, x.want)
		}
	}
}

// P7.2: the order of many issues of a pair.
func TestManyIssues(t *testing.T) {
	text := strings.Repeat("Arbeit web Netz Netz Weg werk werknetz werknetz ", 30)
	want := "0:A:0.-1@-1 0:A:1.-1@-1"
	for _, x := range []struct {
		issue string
		at    int
	}{{"F:0.3", 1}, {"F:1.1", 5}, {"U:0.2", 4}, {"U:1.3", 0}} {
		for i := range 30 {
			want += fmt.Sprintf(" 0:%s@%d", x.issue, 8*i+x.at)
		}
	}
	if got := issues(t, base(twoDomains), "", " | "+strings.TrimSpace(text)); got != want {
		t.Errorf("%s, want %s", got, want)
	}
}

// P7.2: occurrences are found by the terms of all domains, and counted of one.
func TestIssuesOfDomain(t *testing.T) {
	b := base("domain a\ndomain b\nconcept x a\nterm en preferred net\nterm de preferred netz\nterm de allowed =Netz\nconcept y b\nterm en preferred net work\nterm de preferred netz\n")
	for _, x := range []struct{ domain, pair, want string }{
		{"", "net work | Netz", "0:M:1.-1@-1 0:A:0.-1@-1"},
		{"a", "net work | Netz", "0:A:0.-1@-1"}, // the net is not found
		{"b", "net work | Netz", "0:M:1.-1@-1"}, // nor is the Netz of y
		{"a", "net | netz Netz", "0:A:0.-1@-1"},
		{"b", "net | netz Netz", ""},
	} {
		if got := issues(t, b, x.domain, x.pair); got != x.want {
			t.Errorf("%s, domain %q: %s, want %s", x.pair, x.domain, got, x.want)
		}
	}
}

// P7.2, P7.5: two tongues may be one, or have one name, or the one that the other has.
func TestIssuesOfTongues(t *testing.T) {
	b := concepts("en p net; en f web; de p netz")
	for _, x := range []struct {
		from, to api.Tongue
		pair     string
		want     string
	}{
		{english(), english(), "the nets | nets", ""},
		{english(), english(), "the web | the web", "0:M:0.-1@-1 0:F:0.1@1"},
		{english(), english(), "web | net", ""},
		{english(), mute("en"), "nets net | nets net", "0:M:0.-1@-1"},
		{mute("en"), english(), "nets net | nets net", "0:A:0.-1@-1"},
		{tongue("de", german), english(), "netze | nets", ""},
		{mute("fr"), mute("fr"), "net netz | net", ""},
		{mute("fr"), english(), "net netz | net web", "0:A:0.-1@-1 0:F:0.1@1"},
	} {
		l, e := terms.Issues(b, x.from, x.to, "", pairs(x.pair))
		if got := issued(l); got != x.want || e != api.OK {
			t.Errorf("%s to %s, %s: %s, error %d, want %s", x.from.Name, x.to.Name, x.pair, got, e, x.want)
		}
	}
}

// P7.2: the errors of Issues, in their order.
func TestIssuesErrors(t *testing.T) {
	fine, many := pairs("net | Netz"), make([]api.Pair, 257)
	hole := api.Piece{Kind: api.PiHole, Text: "n"}
	bad, worse := []api.Piece{{Kind: api.PiHole, Text: "N"}}, slices.Repeat([]api.Piece{hole}, 513)
	long := read(strings.Repeat(".", 513))
	broken := base(twoDomains)
	broken.Concepts[2].Terms[1].Status = 0
	for i, x := range []struct {
		b        api.Termbase
		from, to api.Tongue
		domain   string
		pairs    []api.Pair
		want     api.Errno
	}{
		{broken, crooked("1"), twisted("1"), "x", many, api.ErrArg},
		{base(twoDomains), crooked("1"), twisted("de"), "x", many, api.ErrName},
		{base(twoDomains), crooked("en"), twisted("1"), "x", many, api.ErrName},
		{base(twoDomains), crooked("en"), twisted("de"), "x", many, crookedIs},
		{base(twoDomains), twisted("en"), crooked("de"), "x", many, twistedIs},
		{base(twoDomains), english(), crooked("de"), "x", many, crookedIs},
		{base(twoDomains), english(), twisted("de"), "x", many, twistedIs},
		{base(twoDomains), english(), mute("de"), "x", many, api.ErrNone},
		{base(twoDomains), english(), mute("de"), "net", nil, api.ErrNone},
		{base(twoDomains), english(), mute("de"), "IT", nil, api.ErrNone},
		{base(twoDomains), english(), mute("de"), " ", nil, api.ErrNone},
		{api.Termbase{}, english(), mute("de"), "it", nil, api.ErrNone},
		{base(twoDomains), english(), mute("de"), "it", many, api.ErrLimit},
		{base(twoDomains), english(), mute("de"), "", append(many, api.Pair{Source: bad}), api.ErrLimit},
		{base(twoDomains), english(), mute("de"), "", []api.Pair{fine[0], {Source: bad, Target: long}, {Source: worse}}, api.ErrName},
		{base(twoDomains), english(), mute("de"), "", []api.Pair{fine[0], {Source: long, Target: bad}}, api.ErrLimit},
		{base(twoDomains), english(), mute("de"), "", []api.Pair{fine[0], {Target: bad}, {Source: long}}, api.ErrName},
		{base(twoDomains), english(), mute("de"), "", []api.Pair{fine[0], {Target: long}, {Source: bad}}, api.ErrLimit},
		{base(twoDomains), english(), mute("de"), "", []api.Pair{{Source: worse}, {Target: bad}}, api.ErrLimit},
		{base(twoDomains), english(), mute("de"), "law", append(make([]api.Pair, 255), api.Pair{Target: bad}), api.ErrName},
		{base(twoDomains), english(), mute("de"), "law", append(make([]api.Pair, 255), api.Pair{Source: fine[0].Source}), api.OK},
		{base(twoDomains), english(), mute("de"), "", []api.Pair{{Source: worse[:512], Target: worse[:512]}}, api.OK},
	} {
		if l, e := terms.Issues(x.b, x.from, x.to, x.domain, x.pairs); e != x.want || len(l) != 0 {
			t.Errorf("case %d: %s, error %d, want %d", i, issued(l), e, x.want)
		}
	}
	for _, f := range faults() {
		b := sound()
		f.spoil(&b)
		if l, e := terms.Issues(b, crooked("1"), twisted(""), "?", many); e != f.e || l != nil {
			t.Errorf("%s: %s, error %d, want %d", f.name, issued(l), e, f.e)
		}
	}
	last := append(make([]api.Pair, 255), api.Pair{Source: read(strings.Repeat("a ", 511) + "net")})
	if l, e := terms.Issues(base(twoDomains), english(), mute("de"), "", last); issued(l) != "255:M:0.-1@-1" || e != api.OK {
		t.Errorf("%s, error %d", issued(l), e)
	}
}

package morph_test

import (
	"strings"
	"testing"

	"truchman/morph"
)

// P2.1, byte by byte.
func TestBytes(t *testing.T) {
	for n := range 256 {
		c := string([]byte{byte(n)})
		small := 'a' <= n && n <= 'z'
		begins := small || 'A' <= n && n <= 'Z'
		goesOn := begins || '0' <= n && n <= '9' || n == '_'
		inWord := 33 <= n && n <= 126
		for _, x := range []struct {
			s                 string
			name, word, plain bool
		}{{c, begins, inWord, small}, {"a" + c, goesOn, inWord, small}, {c + "a", begins, inWord, small}, {"a" + c + "a", goesOn, inWord, small}} {
			if morph.Name(x.s) != x.name {
				t.Errorf("Name(%q)", x.s)
			}
			if morph.Word(x.s) != x.word {
				t.Errorf("Word(%q)", x.s)
			}
			if morph.Plain(x.s) != x.plain {
				t.Errorf("Plain(%q)", x.s)
			}
		}
	}
}

// P2.1: how long names and words may be.
func TestLengths(t *testing.T) {
	for n := range 40 {
		s := strings.Repeat("a", n)
		if morph.Name(s) != (1 <= n && n <= 12) {
			t.Errorf("Name of %d bytes", n)
		}
		if morph.Word(s) != (1 <= n && n <= 24) {
			t.Errorf("Word of %d bytes", n)
		}
		if morph.Plain(s) != (1 <= n && n <= 24) {
			t.Errorf("Plain of %d bytes", n)
		}
	}
	if morph.Word(strings.Repeat("é", 2)) || morph.Name("é") || morph.Plain("é") {
		t.Error("é is two bytes, both above 126")
	}
}

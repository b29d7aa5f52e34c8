package morph_test

import (
	"slices"
	"strings"
	"testing"

	"truchman/api"
	"truchman/morph"
)

// P2.4.
func TestUnify(t *testing.T) {
	for _, x := range []struct {
		a, b, want string
		ok         bool
	}{
		{"", "", "", true},
		{"num=sg", "", "num=sg", true},
		{"", "num=sg", "num=sg", true},
		{"num=sg", "num=sg", "num=sg", true},
		{"num=sg", "num=pl", "", false},
		{"num=sg", "case=nom", "case=nom num=sg", true},
		{"a=1 c=3", "b=2 d=4", "a=1 b=2 c=3 d=4", true},
		{"a=1 c=3 e=5", "c=3", "a=1 c=3 e=5", true},
		{"c=3", "a=1 b=2 c=3 d=4", "a=1 b=2 c=3 d=4", true},
		{"a=1 c=3", "b=2 c=4", "", false},
		{"a=1 b=2 c=3", "c=4", "", false},
		{"a= b=", "a= c=", "a= b= c=", true},
		{"a=", "a=1", "", false},
		{"A=1", "a=2", "A=1 a=2", true},
		{"ab=1", "a=1 b=1", "a=1 ab=1 b=1", true},
		{"b=1 a=1", "", "", false},
		{"", "b=1 a=1", "", false},
		{"a=1 a=1", "", "", false},
		{"", "a=1 a=1", "", false},
		{"b=1", "a=1 c=1 b=1", "", false},
		{"b=1 a=1", "b=1 a=1", "", false},
	} {
		got, ok := morph.Unify(b(x.a), b(x.b))
		if ok != x.ok || !slices.Equal(got, b(x.want)) {
			t.Errorf("Unify(%s; %s): %v, %v", x.a, x.b, got, ok)
		}
		if got, ok := morph.Unify(b(x.b), b(x.a)); ok != x.ok || !slices.Equal(got, b(x.want)) {
			t.Errorf("Unify(%s; %s): %v, %v", x.b, x.a, got, ok)
		}
	}
}

// P2.4: names and values may be any strings, and lists of any length.
func TestUnifyAny(t *testing.T) {
	x := []api.Feat{{Name: "", Value: "\xff"}, {Name: " ", Value: ""}}
	if got, ok := morph.Unify(x, []api.Feat{{Name: "\x80"}}); !ok || len(got) != 3 || got[2].Name != "\x80" {
		t.Error(got, ok)
	}
	var odd, even []api.Feat
	for i := range 100 {
		f := api.Feat{Name: strings.Repeat("a", i)}
		if i%2 == 0 {
			even = append(even, f)
		} else {
			odd = append(odd, f)
		}
	}
	if got, ok := morph.Unify(odd, even); !ok || len(got) != 100 || got[99].Name != odd[49].Name {
		t.Error(len(got), ok)
	}
}

// P2.4: of any two lists, in any order.
func TestSubsumes(t *testing.T) {
	for _, x := range []struct {
		a, b string
		want bool
	}{
		{"", "", true}, {"", "num=sg", true}, {"num=sg", "", false},
		{"num=sg", "num=sg", true}, {"num=sg", "num=pl", false}, {"num=sg", "case=sg", false},
		{"num=sg", "case=nom num=sg", true}, {"case=nom num=sg", "num=sg", false},
		{"b=1 a=1", "a=1 b=1", true}, {"a=1 a=1", "a=1", true}, {"a=1 a=2", "a=2 a=1", true}, {"a=1 a=2", "a=1", false},
		{"a=1", "c=1 b=1 a=1", true}, {"a=", "a=", true}, {"a=", "a=1", false},
	} {
		if morph.Subsumes(b(x.a), b(x.b)) != x.want {
			t.Errorf("Subsumes(%s; %s)", x.a, x.b)
		}
	}
}

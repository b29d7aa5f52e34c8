package desk

import (
	"testing"

	"truchman/api"
)

// P10.2: the number of the first certificate that does not hold. No command makes one, so these are put on the desk from inside.
func TestRefuted(t *testing.T) {
	d := New()
	holds, not, none := api.Certificate{Kind: api.CtMerge}, api.Certificate{Kind: api.CtFailure}, api.Certificate{}
	for _, x := range []struct {
		l    []api.Certificate
		want string
	}{
		{nil, "verified 0"},
		{[]api.Certificate{holds, holds}, "verified 2"},
		{[]api.Certificate{not}, "refuted 0"},
		{[]api.Certificate{none, not}, "refuted 0"},
		{[]api.Certificate{holds, holds, not, holds, none}, "refuted 2"},
	} {
		d.proofs = x.l
		if answer, e := d.Do("verify"); e != api.OK || answer != x.want {
			t.Errorf("%q, error %d, want %q", answer, e, x.want)
		}
	}
}

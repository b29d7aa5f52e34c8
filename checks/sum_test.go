package checks

import (
	"testing"

	"truchman/api"
)

// P8.1: weights that come to more than MaxNumber. No list of findings that fits into memory does, so this asks what adds them.
func TestHeavyFindings(t *testing.T) {
	for _, x := range []struct{ weight, more, want int64 }{
		{0, 1000, 1000},
		{api.MaxNumber - 1000, 999, api.MaxNumber - 1},
		{api.MaxNumber - 1000, 1000, api.MaxNumber},
		{api.MaxNumber - 1000, 1001, api.MaxNumber},
		{api.MaxNumber, 0, api.MaxNumber},
		{api.MaxNumber, 1000, api.MaxNumber},
	} {
		if got := sum(x.weight, x.more); got != x.want {
			t.Errorf("%d and %d: %d, want %d", x.weight, x.more, got, x.want)
		}
	}
}

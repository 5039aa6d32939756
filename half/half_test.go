package half_test

import (
	"math"
	"testing"

	"hindsight/half"
)

// P9.1, P10.1: where leaves part, for the layers that ask.
func TestOf(t *testing.T) {
	for _, x := range []struct{ n, want int }{
		{math.MinInt, 0}, {-1, 0}, {0, 0}, {1, 0},
		{2, 1}, {3, 2}, {4, 2}, {5, 4}, {8, 4}, {9, 8}, {1 << 40, 1 << 39}, {1<<40 + 1, 1 << 40},
		{1 << 62, 1 << 61}, {1<<62 + 1, 1 << 62}, {math.MaxInt, 1 << 62},
	} {
		if got := half.Of(x.n); got != x.want {
			t.Errorf("Of(%d): %d, want %d", x.n, got, x.want)
		}
	}
	for n := 2; n < 1<<12; n++ {
		k := half.Of(n)
		if k&(k-1) != 0 || k >= n || 2*k < n {
			t.Errorf("Of(%d): %d", n, k)
		}
	}
}

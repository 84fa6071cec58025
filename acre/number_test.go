package acre

import (
	"math"
	"testing"
)

func TestSign(t *testing.T) {
	for n, want := range map[int]int{math.MinInt: -1, -1: -1, 0: 0, 1: 1, math.MaxInt: 1} {
		if got := sign(n); got != want {
			t.Errorf("sign(%d) = %d, want %d", n, got, want)
		}
	}
	if sign(-0.25) != -1 || sign(math.Copysign(0, -1)) != 0 || sign(int64(7)) != 1 {
		t.Error("sign of other kinds of numbers")
	}
}

func TestGcd(t *testing.T) {
	for _, c := range [][3]int{{0, 0, 0}, {0, 5, 5}, {5, 0, 5}, {0, -5, 5}, {-5, 0, 5}, {12, 18, 6}, {-12, 18, 6}, {12, -18, 6}, {-12, -18, 6}, {7, 1, 1}, {7, 1152, 1}} {
		if got := gcd(c[0], c[1]); got != c[2] {
			t.Errorf("gcd(%d, %d) = %d, want %d", c[0], c[1], got, c[2])
		}
	}
	if got := gcd(int64(1)<<40, int64(3)<<38); got != 1<<38 {
		t.Errorf("gcd of int64 = %d", got)
	}
}

func TestLeast(t *testing.T) {
	if least(3) != 3 || least(3, 1, 2) != 1 || least(1, 3, 2) != 1 || least(3, 2, -1) != -1 || least(0.5, 0.25) != 0.25 {
		t.Error("least is not the least")
	}
}

func TestLowest(t *testing.T) {
	for _, c := range []struct {
		n, d int
		want Frac
	}{{0, 7, Frac{0, 1}}, {0, -7, Frac{0, 1}}, {6, 4, Frac{3, 2}}, {-6, 4, Frac{-3, 2}}, {6, -4, Frac{-3, 2}}, {-6, -4, Frac{3, 2}}, {5, 1, Frac{5, 1}}} {
		if got := lowest(c.n, c.d); got != c.want {
			t.Errorf("lowest(%d, %d) = %v, want %v", c.n, c.d, got, c.want)
		}
	}
}

func TestOrder(t *testing.T) {
	for _, c := range []struct {
		f, g Frac
		want int
	}{{Frac{0, 1}, Frac{0, 1}, 0}, {Frac{1, 2}, Frac{1, 3}, 1}, {Frac{-1, 2}, Frac{-1, 3}, -1}, {Frac{1, 1152}, Frac{1, 1151}, -1}, {Frac{-12, 1}, Frac{13823, 1152}, -1}, {Frac{5, 1}, Frac{5, 1}, 0}} {
		if got := order(c.f, c.g); got != c.want || order(c.g, c.f) != -c.want {
			t.Errorf("order(%v, %v) = %d, want %d", c.f, c.g, got, c.want)
		}
	}
}

func TestMediant(t *testing.T) {
	for _, c := range [][2]Frac{{{-12, 1}, {12, 1}}, {{0, 1}, {1, 1}}, {{1, 1152}, {1, 1151}}, {{-13823, 1152}, {-12, 1105}}, {{-1, 2}, {1, 2}}} {
		low, high := c[0], c[1]
		if order(low, high) > 0 {
			low, high = high, low
		}
		m := mediant(c[0], c[1])
		if order(low, m) >= 0 || order(m, high) >= 0 || m != lowest(m.N, m.D) {
			t.Errorf("mediant(%v, %v) = %v", c[0], c[1], m)
		}
	}
}

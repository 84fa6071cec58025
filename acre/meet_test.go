package acre_test

import (
	"math/big"
	"math/rand"
	"testing"

	"acre/acre"
)

func TestMeet(t *testing.T) {
	none := acre.Frac{}
	for _, c := range []struct {
		e, f acre.Edge
		n    int
		x, y acre.Frac
	}{
		{edge(0, 0, 4, 4), edge(0, 4, 4, 0), 1, frac(2, 1), frac(2, 1)},
		{edge(0, 0, -3, -1), edge(0, -1, -3, 0), 1, frac(-3, 2), frac(-1, 2)},
		{edge(-1, 0, 1, 0), edge(0, -1, 0, 1), 1, frac(0, 1), frac(0, 1)},
		{edge(-12, -12, 12, 11), edge(-12, 12, 11, -12), 1, frac(-12, 1105), frac(-564, 1105)},
		{edge(-12, -12, 12, 12), edge(-12, 12, 12, -12), 1, frac(0, 1), frac(0, 1)},
		// they touch, with an end or with both
		{edge(0, 0, 4, 0), edge(2, 0, 2, 5), 1, frac(2, 1), frac(0, 1)},
		{edge(0, 0, 4, 0), edge(4, 0, 4, 4), 1, frac(4, 1), frac(0, 1)},
		{edge(0, 0, 4, 4), edge(4, 4, 6, 6), 1, frac(4, 1), frac(4, 1)},
		{edge(0, 0, 4, 4), edge(6, 6, 4, 4), 1, frac(4, 1), frac(4, 1)},
		{edge(1, 0, 1, 3), edge(1, 3, 1, 9), 1, frac(1, 1), frac(3, 1)},
		// only their lines cross
		{edge(0, 0, 4, 0), edge(2, 1, 2, 5), 0, none, none},
		{edge(0, 0, 1, 1), edge(0, 4, 4, 0), 0, none, none},
		{edge(0, 0, 4, 4), edge(0, 4, 1, 3), 0, none, none},
		{edge(-12, 12, 12, 12), edge(-12, -12, 12, -11), 0, none, none},
		// they are on one line, or beside each other
		{edge(0, 0, 4, 4), edge(5, 5, 6, 6), 0, none, none},
		{edge(0, 0, 4, 4), edge(0, 1, 4, 5), 0, none, none},
		{edge(1, 0, 1, 5), edge(2, 0, 2, 5), 0, none, none},
		{edge(0, 0, 4, 4), edge(3, 3, 6, 6), 2, none, none},
		{edge(0, 0, 4, 4), edge(1, 1, 2, 2), 2, none, none},
		{edge(0, 0, 4, 4), edge(0, 0, 4, 4), 2, none, none},
		{edge(0, 0, 4, 4), edge(0, 0, 2, 2), 2, none, none},
		{edge(1, 0, 1, 5), edge(1, 9, 1, 4), 2, none, none},
		// points alone
		{edge(1, 1, 1, 1), edge(0, 0, 2, 2), 1, frac(1, 1), frac(1, 1)},
		{edge(2, 2, 2, 2), edge(0, 0, 2, 2), 1, frac(2, 1), frac(2, 1)},
		{edge(3, 3, 3, 3), edge(0, 0, 2, 2), 0, none, none},
		{edge(1, 0, 1, 0), edge(0, 0, 2, 2), 0, none, none},
		{edge(-1, 0, -1, 0), edge(-1, 0, -1, 0), 1, frac(-1, 1), frac(0, 1)},
		{edge(1, 1, 1, 1), edge(1, 2, 1, 2), 0, none, none},
	} {
		checkMeet(t, c.e, c.f, c.n, c.x, c.y)
	}
}

// checkMeet holds that neither the order of the edges nor the way that they
// go matters.
func checkMeet(t *testing.T, e, f acre.Edge, n int, x, y acre.Frac) {
	t.Helper()
	for _, e := range []acre.Edge{e, {e[1], e[0]}} {
		for _, f := range []acre.Edge{f, {f[1], f[0]}} {
			for _, p := range [][2]acre.Edge{{e, f}, {f, e}} {
				if gn, gx, gy := acre.Meet(p[0], p[1]); gn != n || gx != x || gy != y {
					t.Errorf("P5: Meet(%v, %v) = %d, %v, %v, want %d, %v, %v", p[0], p[1], gn, gx, gy, n, x, y)
				}
			}
		}
	}
}

func TestMeetTooFarOut(t *testing.T) {
	const greatest, least = int(^uint(0) >> 1), -int(^uint(0)>>1) - 1
	for _, n := range []int{13, -13, 1 << 32, greatest, least, greatest - 12, least + 12} {
		for _, e := range []acre.Edge{edge(n, 0, 0, 0), edge(0, n, 0, 0), edge(0, 0, n, 0), edge(0, 0, 0, n), edge(n, n, n, n), edge(n, 0, -n, 0)} {
			for _, f := range []acre.Edge{edge(0, 0, 1, 0), edge(0, 0, 0, 0), edge(-12, -12, 12, 12), e} {
				checkMeet(t, e, f, 0, acre.Frac{}, acre.Frac{})
			}
		}
	}
	checkMeet(t, edge(-12, 0, 12, 0), edge(0, -12, 0, 12), 1, frac(0, 1), frac(0, 1))
	checkMeet(t, edge(12, 12, -12, 12), edge(12, 12, 12, -12), 1, frac(12, 1), frac(12, 1))
}

// span is how much of e, from 0 to 1, is left.
type span struct{ from, to *big.Rat }

// keep leaves of the span what makes a + b*t not below 0.
func (s *span) keep(a, b *big.Rat) {
	switch b.Sign() {
	case 0:
		if a.Sign() < 0 {
			s.from, s.to = rat(1, 1), rat(0, 1)
		}
	case 1:
		if at := quo(new(big.Rat).Neg(a), b); at.Cmp(s.from) > 0 {
			s.from = at
		}
	default:
		if at := quo(new(big.Rat).Neg(a), b); at.Cmp(s.to) < 0 {
			s.to = at
		}
	}
}

// keepZero leaves of the span what makes a + b*t 0.
func (s *span) keepZero(a, b int) {
	s.keep(rat(a, 1), rat(b, 1))
	s.keep(rat(-a, 1), rat(-b, 1))
}

// keepWithin leaves of the span where a + b*t is between the two numbers.
func (s *span) keepWithin(a, b, c, d int) {
	s.keep(rat(a-min(c, d), 1), rat(b, 1))
	s.keep(rat(max(c, d)-a, 1), rat(-b, 1))
}

// meetByCutting cuts from e, step by step, all that is not on f.
func meetByCutting(e, f acre.Edge) (int, acre.Frac, acre.Frac) {
	s := span{rat(0, 1), rat(1, 1)}
	ex, ey := e[1].X-e[0].X, e[1].Y-e[0].Y
	fx, fy := f[1].X-f[0].X, f[1].Y-f[0].Y
	s.keepZero(fx*(e[0].Y-f[0].Y)-fy*(e[0].X-f[0].X), fx*ey-fy*ex)
	s.keepWithin(e[0].X, ex, f[0].X, f[1].X)
	s.keepWithin(e[0].Y, ey, f[0].Y, f[1].Y)
	switch {
	case s.from.Cmp(s.to) > 0:
		return 0, acre.Frac{}, acre.Frac{}
	case s.from.Cmp(s.to) < 0 && e[0] != e[1]:
		return 2, acre.Frac{}, acre.Frac{}
	}
	x := add(rat(e[0].X, 1), mul(s.from, rat(ex, 1)))
	y := add(rat(e[0].Y, 1), mul(s.from, rat(ey, 1)))
	return 1, asFrac(x), asFrac(y)
}

// Every two edges of a small grid.
func TestMeetSmallEdges(t *testing.T) {
	for n := range 81 {
		e := edge(n%3, n/3%3, n/9%3, n/27)
		for m := range 81 {
			f := edge(m%3, m/3%3, m/9%3, m/27)
			wn, wx, wy := meetByCutting(e, f)
			if gn, gx, gy := acre.Meet(e, f); gn != wn || gx != wx || gy != wy {
				t.Errorf("P5: Meet(%v, %v) = %d, %v, %v, want %d, %v, %v", e, f, gn, gx, gy, wn, wx, wy)
			}
		}
	}
}

func TestMeetSomeEdges(t *testing.T) {
	r := rand.New(rand.NewSource(5))
	for i := range 20000 {
		side := []int{2, 4, 12}[i%3]
		some := func() int { return r.Intn(2*side+1) - side }
		e, f := edge(some(), some(), some(), some()), edge(some(), some(), some(), some())
		wn, wx, wy := meetByCutting(e, f)
		if gn, gx, gy := acre.Meet(e, f); gn != wn || gx != wx || gy != wy {
			t.Errorf("P5: Meet(%v, %v) = %d, %v, %v, want %d, %v, %v", e, f, gn, gx, gy, wn, wx, wy)
		}
	}
}

// A place where edges meet is on both as Where sees it.
func TestMeetIsWhereTheyAre(t *testing.T) {
	r := rand.New(rand.NewSource(6))
	for range 2000 {
		some := func() int { return r.Intn(25) - 12 }
		e, f := edge(some(), some(), some(), some()), edge(some(), some(), some(), some())
		n, x, y := acre.Meet(e, f)
		if n != 1 {
			continue
		}
		for _, g := range []acre.Edge{e, f} {
			if got, err := acre.Where(field([]acre.Point{g[0], g[1], g[0]}), x, y); got != 1 || err != acre.OK {
				t.Errorf("P4, P5: %v and %v meet at %v, %v, but Where = %d, %d", e, f, x, y, got, err)
			}
		}
	}
}

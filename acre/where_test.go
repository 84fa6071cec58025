package acre_test

import (
	"math/big"
	"math/rand"
	"testing"

	"acre/acre"
)

func TestWhere(t *testing.T) {
	for _, c := range []struct {
		text string
		x, y acre.Frac
		want int
	}{
		{"", frac(0, 1), frac(0, 1), 0},
		{"0,0 4,0 4,4 0,4", frac(2, 1), frac(2, 1), 2},
		{"0,0 4,0 4,4 0,4", frac(4, 1), frac(4, 1), 1},
		{"0,0 4,0 4,4 0,4", frac(0, 1), frac(1, 1152), 1},
		{"0,0 4,0 4,4 0,4", frac(-1, 1152), frac(1, 1152), 0},
		{"0,0 4,0 4,4 0,4", frac(1, 1152), frac(1, 1151), 2},
		{"0,0 4,0 4,4 0,4", frac(13, 1), frac(-13, 1), 0},
		{"-12,-12 12,-12 12,12 -12,12", frac(13, 1), frac(13, 1), 0},
		{"-12,-12 12,-12 12,12 -12,12", frac(13823, 1152), frac(-13823, 1152), 2},
		{"-12,-12 12,-12 12,12 -12,12", frac(13825, 1152), frac(0, 1), 0},
		// on the one diagonal, and as near it as can be
		{"-12,-12 12,11 -12,12", frac(0, 1), frac(-1, 2), 1},
		{"-12,-12 12,11 -12,12", frac(0, 1), frac(-575, 1152), 2},
		{"-12,-12 12,11 -12,12", frac(0, 1), frac(-577, 1152), 0},
		// in both rings, in a ring twice, and where a ring goes to and fro
		{"0,0 4,0 4,4 0,4;0,0 4,0 4,4 0,4", frac(1, 1), frac(2, 1), 0},
		{"0,0 4,0 4,4 0,0 4,0 4,4", frac(3, 1), frac(1, 1), 0},
		{"0,0 4,0 4,4;4,4 4,0 0,0", frac(3, 1), frac(1, 1), 0},
		{"0,0 4,0 4,4;4,4 4,0 0,0", frac(4, 1), frac(1, 1), 1},
		{"0,0 0,4 4,4 0,4", frac(2, 1), frac(4, 1), 1},
		{"0,0 0,4 4,4 0,4", frac(2, 1), frac(3, 1), 0},
		// edges that are points alone
		{"1,1 1,1 1,1", frac(1, 1), frac(1, 1), 1},
		{"1,1 1,1 1,1", frac(0, 1), frac(1, 1), 0},
		{"0,0 0,0 4,0 4,4", frac(3, 1), frac(1, 1), 2},
		// level with points of the rings
		{"0,0 2,2 4,0 2,-2", frac(-1, 1), frac(0, 1), 0},
		{"0,0 2,2 4,0 2,-2", frac(1, 1), frac(0, 1), 2},
		{"0,0 2,2 4,0 6,2 6,-2", frac(1, 1), frac(0, 1), 2},
		{"0,0 4,0 4,2 6,2 6,4 0,4", frac(1, 1), frac(2, 1), 2},
		{"0,0 4,0 4,2 6,2 6,4 0,4", frac(-1, 1), frac(2, 1), 0},
	} {
		f, _, _ := acre.Read(c.text)
		if got, e := acre.Where(f, c.x, c.y); got != c.want || e != acre.OK {
			t.Errorf("P4: Where(%q, %v, %v) = %d, %d, want %d", c.text, c.x, c.y, got, e, c.want)
		}
	}
}

func TestWhereRefuses(t *testing.T) {
	zero := frac(0, 1)
	for i, f := range noFields() {
		if got, e := acre.Where(f, zero, zero); got != 0 || e != acre.ErrArg {
			t.Errorf("P4: Where of list %d that is no field = %d, %d", i, got, e)
		}
	}
	const greatest, least = int(^uint(0) >> 1), -int(^uint(0)>>1) - 1
	square := field(ring(-12, -12, 12, -12, 12, 12, -12, 12))
	for _, x := range []acre.Frac{
		{}, {N: 1}, {N: -1}, {N: 0, D: 2}, {N: 0, D: 1152}, {N: 0, D: -1}, {N: 2, D: 4}, {N: -3, D: 3}, {N: 1, D: -2}, {N: -1, D: -2},
		{N: 1, D: 1153}, {N: 2, D: 1153}, {N: 14, D: 1}, {N: -14, D: 1}, {N: 27, D: 2}, {N: -27, D: 2}, {N: 13*1151 + 1, D: 1151}, {N: -13*1151 - 1, D: 1151}, {N: 13 * 1152, D: 1152},
		{N: greatest, D: 1}, {N: least, D: 1}, {N: least, D: -1}, {N: 1, D: greatest}, {N: 1, D: least}, {N: least, D: least}, {N: greatest, D: greatest}, {N: least, D: greatest}, {N: greatest, D: least}, {N: greatest, D: 0}, {N: 0, D: greatest}, {N: 0, D: least}, {N: greatest, D: 1152}, {N: least + 1, D: 1152},
	} {
		for _, p := range [][2]acre.Frac{{x, zero}, {zero, x}, {x, x}} {
			if got, e := acre.Where(square, p[0], p[1]); got != 0 || e != acre.ErrArg {
				t.Errorf("P4: Where(.., %v, %v) = %d, %d", p[0], p[1], got, e)
			}
		}
	}
	for _, x := range []acre.Frac{{N: 13, D: 1}, {N: -13, D: 1}, {N: 25, D: 2}, {N: 13*1152 - 1, D: 1152}, {N: -13*1152 + 1, D: 1152}, {N: 1, D: 1152}, {N: 0, D: 1}} {
		for _, p := range [][2]acre.Frac{{x, zero}, {zero, x}} {
			if _, e := acre.Where(square, p[0], p[1]); e != acre.OK {
				t.Errorf("P4: Where(.., %v, %v) refuses: %d", p[0], p[1], e)
			}
		}
	}
}

// whereByRay does what the document's words say: it takes a ray through no
// point of the rings, and counts the edges one by one.
func whereByRay(field [][]acre.Point, x, y acre.Frac) int {
	px, py := rat(x.N, x.D), rat(y.N, y.D)
	for slope := 1; ; slope++ {
		dx, dy := rat(1000, 1), rat(slope, 1)
		meets, clean := 0, true
		for _, r := range field {
			for i, a := range r {
				b := r[(i+1)%len(r)]
				on, hit, through := rayMeets(px, py, dx, dy, a, b)
				if on {
					return 1
				}
				if hit {
					meets++
				}
				clean = clean && !through
			}
		}
		if clean {
			return 2 * (meets % 2)
		}
	}
}

// rayMeets: is the place on the edge, does the ray meet it, and does the
// ray's line go through one of its ends?
func rayMeets(px, py, dx, dy *big.Rat, a, b acre.Point) (bool, bool, bool) {
	ax, ay := sub(rat(a.X, 1), px), sub(rat(a.Y, 1), py)
	bx, by := sub(rat(b.X, 1), px), sub(rat(b.Y, 1), py)
	if sub(mul(ax, by), mul(ay, bx)).Sign() == 0 && add(mul(ax, bx), mul(ay, by)).Sign() <= 0 {
		return true, false, false
	}
	sa := sub(mul(dx, ay), mul(dy, ax))
	sb := sub(mul(dx, by), mul(dy, bx))
	if sa.Sign() == 0 || sb.Sign() == 0 {
		return false, false, true
	}
	if sa.Sign() == sb.Sign() {
		return false, false, false
	}
	share := quo(sa, sub(sa, sb))
	ahead := add(mul(dx, add(ax, mul(share, sub(bx, ax)))), mul(dy, add(ay, mul(share, sub(by, ay)))))
	return false, ahead.Sign() > 0, false
}

func checkWhere(t *testing.T, f [][]acre.Point, x, y acre.Frac) {
	t.Helper()
	want := whereByRay(f, x, y)
	if got, e := acre.Where(f, x, y); got != want || e != acre.OK {
		t.Errorf("P4: Where(%v, %v, %v) = %d, %d, want %d", f, x, y, got, e, want)
	}
}

func asFrac(r *big.Rat) acre.Frac {
	return frac(int(r.Num().Int64()), int(r.Denom().Int64()))
}

// Every ring of three points of a small grid, at every place around.
func TestWhereSmallRings(t *testing.T) {
	for n := range 9 * 9 * 9 {
		f := field(ring(n%3, n/3%3, n/9%3, n/27%3, n/81%3, n/243))
		for m := range 49 {
			checkWhere(t, f, asFrac(rat(m%7-1, 2)), asFrac(rat(m/7-1, 2)))
		}
	}
}

func TestWhereSomeFields(t *testing.T) {
	r := rand.New(rand.NewSource(4))
	for i := range 6000 {
		side := []int{1, 2, 3, 12}[i%4]
		d := []int{1, 2, 3, 1 + r.Intn(1152)}[r.Intn(4)]
		reach := (side + 1) * d
		x := asFrac(rat(r.Intn(2*reach+1)-reach, d))
		y := asFrac(rat(r.Intn(2*reach+1)-reach, d))
		checkWhere(t, someField(r, side), x, y)
	}
}

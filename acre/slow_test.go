package acre_test

import (
	"math/big"
	"math/rand"
	"strings"
	"testing"

	"acre/acre"
)

const square = "0,0 4,0 4,4 0,4" // edges 0 (below), 1, 2 (above), 3

// kinds are fields of every kind that the document speaks of.
var kinds = []string{
	"",
	square,
	"0,4 4,4 4,0 0,0", // the same, the other way round
	"2,0 6,0 6,4 2,4",
	"4,0 8,0 8,4 4,4", // beside the first
	"0,0 4,0 4,4",
	"0,0 4,4 0,4 4,0",                 // crosses itself
	"-1,2 5,2 -1,0 2,6 5,0",           // crosses itself often
	"0,0 4,0 4,4 0,0 4,0 4,4",         // goes round twice
	"0,0 4,0 2,0",                     // goes over itself
	"0,0 0,4 4,4 0,4",                 // goes to and fro
	"1,1 1,1 1,1",                     // points alone
	"2,0 2,4 2,7",                     // upright edges alone
	"2,0 2,4 3,4 3,0",                 // upright edges too
	"0,0 4,0 4,4;1,1 3,1 3,3 1,3",     // a ring over the other's edges
	"-1,-1 5,-1 5,5 -1,5;1,1 3,1 2,3", // a hole
	"0,0 2,0 1,2;0,0 2,0 1,-2",        // an edge that lies on another
	"0,0 3,0 0,3;1,0 4,0 4,3",         // edges that lie on one another in part
	"0,0 2,2 0,4;4,0 2,2 4,4",         // rings that touch at a point
	"-12,-12 12,11 -12,12 11,-12 0,7", // far out
	"11,0 12,3 11,3 12,0;-12,0 -11,3 -12,3 -11,0", // at the sides of the plane
	"-1,-1 5,5 5,6 -1,0",
	"3,1 3,1 1,3 0,0 0,0;4,4 4,0 0,4",
}

// checkSlow holds what Slow answers against the document's words and against
// Check, and answers it.
func checkSlow(t *testing.T, k task) string {
	t.Helper()
	cert, e, at := acre.Slow(k.a, k.b, k.op)
	if e != acre.OK || at != 0 {
		t.Fatalf("P6: Slow(%q, %q, %d) = %q, %d, %d", k.a, k.b, k.op, cert, e, at)
	}
	if e, at := acre.Check(k.a, k.b, k.op, cert); e != acre.OK || at != 0 {
		t.Errorf("P6, P7: Slow(%q, %q, %d) = %q, Check of it = %d, %d", k.a, k.b, k.op, cert, e, at)
	}
	if !isRight(k, parse(cert)) {
		t.Errorf("P6: Slow(%q, %q, %d) = %q, which is not right", k.a, k.b, k.op, cert)
	}
	return cert
}

func TestSlowAllKinds(t *testing.T) {
	t.Parallel()
	for _, a := range kinds {
		for _, b := range kinds {
			for op := range 4 {
				checkSlow(t, task{a, b, op})
			}
		}
	}
}

func TestSlowAnswers(t *testing.T) {
	const beside = "2,0 6,0 6,4 2,4"
	for _, c := range []struct {
		task
		want []string // how the pieces may be cut, if in the fewest
	}{
		{task{"", "", 1}, []string{""}},
		{task{square, "", 0}, []string{""}},
		{task{square, "", 1}, []string{"0/1 4/1 0 2"}},
		{task{"", square, 1}, []string{"0/1 4/1 0 2"}},
		{task{"", square, 2}, []string{""}},
		{task{square, square, 3}, []string{""}},
		{task{square, beside, 0}, []string{"2/1 4/1 0 2", "2/1 4/1 4 6", "2/1 4/1 0 6", "2/1 4/1 4 2"}},
		{task{square, beside, 2}, []string{"0/1 2/1 0 2"}},
		{task{square, "1,5 3,5 2,7", 2}, []string{"0/1 4/1 0 2"}},
		{task{square, "1,1 3,1 2,3", 1}, []string{"0/1 4/1 0 2"}},
	} {
		got := checkSlow(t, c.task)
		found := false
		for _, w := range c.want {
			found = found || got == w
		}
		if !found {
			t.Errorf("P6: Slow(%q, %q, %d) = %q, want one of %q", c.a, c.b, c.op, got, c.want)
		}
	}
}

// someText is the text of a field, with at most so many points in a ring.
func someText(r *rand.Rand, side, rings, points int) string {
	var texts []string
	for range r.Intn(rings + 1) {
		var list []acre.Point
		for range 3 + r.Intn(points-2) {
			list = append(list, point(r.Intn(2*side+1)-side, r.Intn(2*side+1)-side))
		}
		text, e := acre.Write(field(list))
		if e != acre.OK {
			panic(list)
		}
		texts = append(texts, text)
	}
	return strings.Join(texts, ";")
}

func TestSlowSomeFields(t *testing.T) {
	t.Parallel()
	r := rand.New(rand.NewSource(7))
	for i := range 400 {
		side := []int{1, 2, 3, 12}[i%4]
		checkSlow(t, task{someText(r, side, 1, 5), someText(r, side, 2, 3), i / 4 % 4})
	}
}

// great are fields of as many edges as there can be, and their crossings.
var great = []string{
	"-12,-12 12,11 -11,12 11,-12 -10,7 10,-9;-9,12 9,-11 -8,-12 12,3 -12,5 8,12",
	"-12,12 12,-11 -11,-10 11,9 -10,8 10,-7;-12,1 12,0 -11,-2 11,3 -9,-4 9,5",
	"-12,0 12,1 -12,2 12,3 -12,4 12,5;-12,-1 12,-2 -12,-3 12,-4 -12,-5 12,-6",
	"-12,5 12,-4 -11,3 11,-2 -10,1 10,-1;-12,-6 12,7 -11,-8 11,9 -10,-12 10,11",
}

func TestSlowGreatFields(t *testing.T) {
	t.Parallel()
	for i, a := range great {
		for j, b := range great {
			for op := range 4 {
				cert, e, _ := acre.Slow(a, b, op)
				if f, at := acre.Check(a, b, op, cert); e != acre.OK || f != acre.OK || at != 0 {
					t.Errorf("P6, P7: Slow(%q, %q, %d): %d; Check of it: %d, %d", a, b, op, e, f, at)
				}
				if n := len(parse(cert)); n > 4000 || len(cert) > 200000 {
					t.Errorf("P6: Slow(%q, %q, %d) has %d pieces and %d bytes", a, b, op, n, len(cert))
				}
			}
			if i == 0 && j == 1 {
				checkSlow(t, task{a, b, 3})
			}
		}
	}
}

// What is in just one of Slow's pieces is what Where tells to be in.
func TestSlowIsAsWhere(t *testing.T) {
	r := rand.New(rand.NewSource(8))
	for i := range 300 {
		k := task{someText(r, 5, 2, 6), someText(r, 5, 2, 6), i % 4}
		a, _, _ := acre.Read(k.a)
		b, _, _ := acre.Read(k.b)
		cert, _, _ := acre.Slow(k.a, k.b, k.op)
		pieces, edges := parse(cert), k.edges()
		for range 60 {
			d := []int{1, 2, 3, 1 + r.Intn(1152)}[r.Intn(4)]
			x, y := rat(r.Intn(12*d+1)-6*d, d), rat(r.Intn(12*d+1)-6*d, d)
			first, _ := acre.Where(a, asFrac(x), asFrac(y))
			second, _ := acre.Where(b, asFrac(x), asFrac(y))
			if first == 1 || second == 1 {
				continue
			}
			heights := make([]*big.Rat, len(edges))
			for i, e := range edges {
				if !upright(e) {
					heights[i] = heightAt(e, x)
				}
			}
			times := timesIn(pieces, heights, x, y)
			if want := keeps(k.op, first == 2, second == 2); want != (times == 1) || times > 1 {
				t.Errorf("P4, P6: Slow(%q, %q, %d) = %q: %v, %v is in %d pieces; kept: %t", k.a, k.b, k.op, cert, x, y, times, want)
			}
		}
	}
}

// The errors that all calls on two texts have in common, in their order.
func TestPairRefuses(t *testing.T) {
	long := strings.Repeat("0", 121)
	const greatest, least = int(^uint(0) >> 1), -int(^uint(0)>>1) - 1
	for _, c := range []struct {
		task
		e  acre.Errno
		at int
	}{
		{task{"x", "", 0}, acre.ErrText, 0}, {task{"x", "y", 0}, acre.ErrText, 0}, {task{"0,0 1,", square, 0}, acre.ErrText, 6}, {task{"0,0 1,1", "x", 9}, acre.ErrFew, 0}, {task{"0,0 1,13 0,1", long, 9}, acre.ErrSide, 6}, {task{square + " 5,5 6,6 7,7", "", 9}, acre.ErrMany, 24}, {task{long, "x", 9}, acre.ErrLong, 0},
		{task{"", "y", 0}, acre.ErrText, 1000}, {task{square, "0,0 1,", 9}, acre.ErrText, 1006}, {task{square, "0,0 1,\u2212", 9}, acre.ErrText, 1009}, {task{square, "0,0 1,1", 9}, acre.ErrFew, 1000}, {task{square, square + ";1,1", 0}, acre.ErrFew, 1016}, {task{square, "0,0 1,13 0,1", -1}, acre.ErrSide, 1006}, {task{"", square + " 5,5 6,6 7,7", 9}, acre.ErrMany, 1024}, {task{"", square + ";" + square + ";" + square, 9}, acre.ErrMany, 1032}, {task{"", long, 9}, acre.ErrLong, 1000},
		{task{"", "", 4}, acre.ErrArg, 0}, {task{"", "", -1}, acre.ErrArg, 0}, {task{square, square, 5}, acre.ErrArg, 0}, {task{square, "", greatest}, acre.ErrArg, 0}, {task{square, "", least}, acre.ErrArg, 0},
	} {
		if cert, e, at := acre.Slow(c.a, c.b, c.op); cert != "" || e != c.e || at != c.at {
			t.Errorf("P6: Slow(%q, %q, %d) = %q, %d, %d, want %d, %d", c.a, c.b, c.op, cert, e, at, c.e, c.at)
		}
		for _, cert := range []string{"", "x", "0/1 4/1 0 2", strings.Repeat("x", 200001)} {
			if e, at := acre.Check(c.a, c.b, c.op, cert); e != c.e || at != c.at {
				t.Errorf("P6: Check(%q, %q, %d, %.20q) = %d, %d, want %d, %d", c.a, c.b, c.op, cert, e, at, c.e, c.at)
			}
			if pieces, e, at := acre.Combine(c.a, c.b, c.op, cert); len(pieces) != 0 || e != c.e || at != c.at {
				t.Errorf("P6: Combine(%q, %q, %d, %.20q) = %v, %d, %d, want %d, %d", c.a, c.b, c.op, cert, pieces, e, at, c.e, c.at)
			}
		}
		if text, e, at := acre.Guess(c.a, c.b, c.op); text != "" || e != c.e || at != c.at {
			t.Errorf("P6: Guess(%q, %q, %d) = %q, %d, %d, want %d, %d", c.a, c.b, c.op, text, e, at, c.e, c.at)
		}
	}
}

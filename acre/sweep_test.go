package acre

import (
	"container/heap"
	"math"
	"testing"
)

// Every fraction that a place of fields may have is found again, although
// float64 has lost a little of it.
func TestNearest(t *testing.T) {
	for d := 1; d <= maxDen; d++ {
		for n := -maxSide * d; n <= maxSide*d; n += 1 + d/40 {
			if gcd(n, d) != 1 {
				continue
			}
			x := float64(n) / float64(d)
			for _, off := range []float64{0, 1e-14, -1e-14, 3e-13, -3e-13} {
				if got, want := nearest(x+off), (Frac{n, d}); got != want {
					t.Fatalf("nearest(%v + %v) = %v, want %v", x, off, got, want)
				}
			}
		}
	}
}

// Where x is no such fraction, the answer is still one that is short.
func TestNearestOfOthers(t *testing.T) {
	for _, x := range []float64{math.Pi, -math.Pi, math.Sqrt2, math.Phi, -math.Phi, 1e-4, -1e-4, 1e-8, -1e-8, 12 - 1e-5, -12 + 1e-5, 1. / 1153, 5000. / 1153, 11.9999, 0.5 + 1e-7} {
		f := nearest(x)
		if !isWithin(f, maxSide) || math.Abs(float64(f.N)/float64(f.D)-x) > 1e-3 {
			t.Errorf("nearest(%v) = %v", x, f)
		}
	}
}

func TestApart(t *testing.T) {
	for _, c := range []struct {
		a, b float64
		want int
	}{{0, 0, 0}, {1, 1 + 1e-13, 0}, {-12, -12 - 1e-13, 0}, {1, 2, -1}, {2, 1, 1}, {0, 1e-6, -1}, {-1e-6, -2e-6, 1}} {
		if got := apart(c.a, c.b); got != c.want {
			t.Errorf("apart(%v, %v) = %d, want %d", c.a, c.b, got, c.want)
		}
	}
}

func TestPlacesComeFromTheLeft(t *testing.T) {
	ahead := places{3, 1 + 2i, 2, 1 - 5i, complex(1+1e-13, 0)}
	heap.Init(&ahead)
	var got []float64
	for len(ahead) > 0 {
		x := ahead.next()
		got = append(got, x)
		if x == 2 {
			heap.Push(&ahead, 2.5+1i)
			heap.Push(&ahead, 2.5+1i)
		}
	}
	want := []float64{1, 2, 2.5, 3}
	if len(got) != len(want) {
		t.Fatalf("the sweep stops at %v, want %v", got, want)
	}
	for i := range want {
		if got[i] != want[i] {
			t.Errorf("the sweep stops at %v, want %v", got, want)
		}
	}
}

// The crossings of strokes are those that whole numbers tell of.
func TestCrossings(t *testing.T) {
	edges := []Edge{{{0, 0}, {4, 4}}, {{4, 1}, {0, 4}}, {{-12, 11}, {12, -12}}, {{-11, -12}, {11, 12}}, {{-12, 0}, {12, 1}}, {{2, 2}, {2, 7}}, {{3, 3}, {3, 3}}}
	strokes := strokesOf(edges)
	if len(strokes) != 5 {
		t.Fatalf("%d strokes, want 5", len(strokes))
	}
	for i, s := range strokes {
		if real(s.from) >= real(s.to) {
			t.Errorf("the stroke %v does not go to the right", s)
		}
		for _, u := range strokes[:i] {
			turn := turnOf(s.to-s.from, u.to-u.from)
			whole := cross(along(edges[s.number]), along(edges[u.number]))
			if math.Abs(turn) != math.Abs(float64(whole)) {
				t.Errorf("turn of %v and %v is %v, want %d or its opposite", s, u, turn, whole)
			}
			x, y := crossing(edges[s.number], edges[u.number], whole)
			c := s.crossing(u, turn)
			if nearest(real(c)) != x || apart(imag(c), float64(y.N)/float64(y.D)) != 0 {
				t.Errorf("%v and %v cross at %v, want %v, %v", s, u, c, x, y)
			}
		}
	}
}

package acre

import (
	"cmp"
	"slices"
)

// stroke is an edge that is not upright as the sweep takes it, from left to
// right.
type stroke struct {
	number   int // of the edge
	from, to complex128
}

func place(p Point) complex128 {
	return complex(float64(p.X), float64(p.Y))
}

// strokesOf leaves upright edges out: nothing is above or below them.
func strokesOf(edges []Edge) []stroke {
	var strokes []stroke
	for n, e := range edges {
		from, to := place(e[0]), place(e[1])
		switch apart(real(from), real(to)) {
		case -1:
			strokes = append(strokes, stroke{n, from, to})
		case 1:
			strokes = append(strokes, stroke{n, to, from})
		}
	}
	return strokes
}

func endsOf(strokes []stroke) places {
	var ends places
	for _, s := range strokes {
		ends = append(ends, s.from, s.to)
	}
	return ends
}

func (s stroke) slope() float64 {
	way := s.to - s.from
	return imag(way) / real(way)
}

func (s stroke) height(x float64) float64 {
	return imag(s.from) + (x-real(s.from))*s.slope()
}

// riseAt orders strokes by how high they are at x or, where they meet there,
// just right of it. It is 0 for those on one line.
func riseAt(x float64) func(s, t stroke) int {
	return func(s, t stroke) int {
		return cmp.Or(apart(s.height(x), t.height(x)), apart(s.slope(), t.slope()))
	}
}

// liveAt lists the strokes that go on to the right of x, from below; those on
// one line stay in the order of their numbers.
func liveAt(x float64, strokes []stroke) []stroke {
	live := make([]stroke, 0, len(strokes))
	for _, s := range strokes {
		if apart(real(s.from), x) <= 0 && apart(real(s.to), x) > 0 {
			live = append(live, s)
		}
	}
	slices.SortStableFunc(live, riseAt(x))
	return live
}

// crossingsPast lists where neighbours cross right of x. Others need no look
// yet: they become neighbours ahead of the place where they cross.
func crossingsPast(x float64, live []stroke) []complex128 {
	var crossings []complex128
	for i := 1; i < len(live); i++ {
		s, t := live[i-1], live[i]
		turn := turnOf(s.to-s.from, t.to-t.from)
		if sign(turn) >= 0 { // they go apart, or side by side
			continue
		}
		c := s.crossing(t, turn)
		if apart(real(c), x) > 0 && apart(real(c), least(real(s.to), real(t.to))) < 0 {
			crossings = append(crossings, c)
		}
	}
	return crossings
}

// turnOf is above 0 if w goes to the left of v, below 0 if to the right, and 0
// if they are parallel: both are turned until v goes straight along.
func turnOf(v, w complex128) float64 {
	return imag(complex(real(v), -imag(v)) * w)
}

// crossing is where the strokes' lines cross; turn is that of their ways, not
// 0.
func (s stroke) crossing(t stroke, turn float64) complex128 {
	share := turnOf(t.from-s.from, t.to-t.from) / turn
	return s.from + complex(share, 0)*(s.to-s.from)
}

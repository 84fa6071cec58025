package acre

import (
	"container/heap"
	"iter"
	"math"
)

// sweep goes over the plane from left to right in floating numbers, and tells
// what it takes to lie between one stop and the next. The slabs have no rank:
// they are for cutting pieces, not for checking them.
func (p pair) sweep() iter.Seq[slab] {
	return func(yield func(slab) bool) {
		strokes := strokesOf(p.edges)
		ahead := endsOf(strokes)
		heap.Init(&ahead)
		for len(ahead) > 0 {
			x := ahead.next()
			live := liveAt(x, strokes)
			for _, place := range crossingsPast(x, live) {
				heap.Push(&ahead, place)
			}
			if len(ahead) == 0 {
				return
			}
			to := nearest(real(ahead[0]))
			if !yield(slab{from: nearest(x), to: to, layers: p.layersAt(x, live)}) {
				return
			}
		}
	}
}

// places is a heap with the leftmost place on top.
type places []complex128

func (p places) Len() int           { return len(p) }
func (p places) Less(i, j int) bool { return real(p[i]) < real(p[j]) }
func (p places) Swap(i, j int)      { p[i], p[j] = p[j], p[i] }
func (p *places) Push(place any)    { *p = append(*p, place.(complex128)) }
func (p *places) Pop() any {
	last := len(*p) - 1
	place := (*p)[last]
	*p = (*p)[:last]
	return place
}

// next takes the leftmost place, and with it all that are taken to be at the
// same x: a crossing is found anew at each stop ahead of it.
func (p *places) next() float64 {
	x := real(heap.Pop(p).(complex128))
	for len(*p) > 0 && apart(real((*p)[0]), x) == 0 {
		heap.Pop(p)
	}
	return x
}

// apart is the sign of a - b, and 0 where they are as near as two reckonings
// of one number may be. Numbers of fields that differ do so by a thousand
// times as much at least.
func apart(a, b float64) int {
	const near = 1e-9
	if math.Abs(a-b) < near {
		return 0
	}
	return sign(a - b)
}

// nearest is the fraction that x stands for, if it is one that a place of
// fields may have, and else one close by. Each turn of the loop finds a closer
// one; behind the right one comes one with a huge denominator, since all that
// is left of x then is what float64 lost.
func nearest(x float64) Frac {
	n, d := math.Floor(x), 1.0
	lastN, lastD := 1.0, 0.0
	rest := x - n
	for d <= maxDen {
		rest = 1 / rest
		times := math.Floor(rest)
		rest -= times
		n, lastN = times*n+lastN, n
		d, lastD = times*d+lastD, d
	}
	return Frac{int(lastN), int(lastD)}
}

// layersAt lists the lines of the live strokes from below, each by the edge
// of the least number on it.
func (p pair) layersAt(x float64, live []stroke) []layer {
	layers := make([]layer, 0, len(live))
	var below [2]int
	rise := riseAt(x)
	for i, s := range live {
		if i == 0 || rise(live[i-1], s) != 0 {
			layers = append(layers, layer{edge: p.edges[s.number]})
		}
		below[p.owner(s.number)]++
		layers[len(layers)-1].inside = p.keeps(below)
	}
	return layers
}

package acre

import (
	"iter"
	"maps"
	"slices"
)

// slab is what lies between two x's, where no edge begins or ends and no two
// lines cross: whatever holds somewhere in it between two layers holds there
// all along.
type slab struct {
	from, to Frac
	layers   []layer      // from below
	rank     map[Edge]int // the layer on which an edge's line is
}

// layer is a line that edges are on, in a slab.
type layer struct {
	edge   Edge // one that is in the slab, unless the layer is bare
	bare   bool // the edges on this line are all beside the slab
	inside bool // the op keeps what is above, up to the next layer
}

// slabs cuts the plane from the first x of an edge or of more to the last;
// beyond there is no edge, and so nothing that an op keeps.
func (p pair) slabs(more []Frac) iter.Seq[slab] {
	cuts := cutsOf(p.edges, more)
	return func(yield func(slab) bool) {
		for i := 1; i < len(cuts); i++ {
			if !yield(p.slabBetween(cuts[i-1], cuts[i])) {
				return
			}
		}
	}
}

// cutsOf lists in order where an edge begins or ends, where two of their
// lines cross, and more.
func cutsOf(edges []Edge, more []Frac) []Frac {
	cuts := map[Frac]struct{}{}
	for _, x := range more {
		cuts[x] = struct{}{}
	}
	for i, e := range edges {
		cuts[Frac{e[0].X, 1}] = struct{}{} // its other end begins the next edge of the ring
		for _, f := range edges[:i] {
			turn := cross(along(e), along(f))
			if turn == 0 {
				continue
			}
			if x, _ := crossing(e, f, turn); between(x, -maxSide, maxSide) {
				cuts[x] = struct{}{}
			}
		}
	}
	return slices.SortedFunc(maps.Keys(cuts), order)
}

// slabBetween goes up through the slab in its midst.
func (p pair) slabBetween(from, to Frac) slab {
	s := slab{from: from, to: to, rank: map[Edge]int{}}
	numbers := p.byHeight(mediant(from, to))
	var below [2]int
	for i, h := range slices.SortedFunc(maps.Keys(numbers), order) {
		l := layer{bare: true}
		for _, n := range numbers[h] {
			e := p.edges[n]
			s.rank[e] = i
			if !spans(e, from, to) {
				continue
			}
			below[p.owner(n)]++
			if l.bare {
				l.edge, l.bare = e, false
			}
		}
		l.inside = p.keeps(below)
		s.layers = append(s.layers, l)
	}
	return s
}

// byHeight lists which edges' lines are how high at x.
func (p pair) byHeight(x Frac) map[Frac][]int {
	numbers := map[Frac][]int{}
	for n, e := range p.edges {
		if !isUpright(e) {
			h := height(e, x)
			numbers[h] = append(numbers[h], n)
		}
	}
	return numbers
}

// spans tells whether the edge goes all along from one x to a greater one; an
// upright one never does.
func spans(e Edge, from, to Frac) bool {
	return between(from, e[0].X, e[1].X) && between(to, e[0].X, e[1].X)
}

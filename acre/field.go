package acre

const (
	maxText   = 120
	maxRings  = 2
	minPoints = 3
	maxPoints = 6
	maxSide   = 12
	maxDen    = 1152
)

// keepsSide tells whether n may be a number of a field's point.
func keepsSide(n int) bool {
	return n >= -maxSide && n <= maxSide
}

func areOnGrid(points ...Point) bool {
	for _, p := range points {
		if !keepsSide(p.X) || !keepsSide(p.Y) {
			return false
		}
	}
	return true
}

// isField looks at the lengths ahead of the points, so that a list of any
// length is refused at once.
func isField(field [][]Point) bool {
	if len(field) > maxRings {
		return false
	}
	for _, ring := range field {
		if len(ring) < minPoints || len(ring) > maxPoints || !areOnGrid(ring...) {
			return false
		}
	}
	return true
}

// edgesOf lists the edges by their numbers.
func edgesOf(field [][]Point) []Edge {
	var edges []Edge
	for _, ring := range field {
		for i, p := range ring {
			edges = append(edges, Edge{p, ring[(i+1)%len(ring)]})
		}
	}
	return edges
}

func isUpright(e Edge) bool { return e[0].X == e[1].X }

// height is the y at x of the line through an edge that is not upright.
func height(e Edge, x Frac) Frac {
	way := along(e)
	return lowest(e[0].Y*way.X*x.D+(x.N-e[0].X*x.D)*way.Y, way.X*x.D)
}

// isOn tells whether the place is on the edge, its ends included. The box is
// needed besides the line: it cuts the line off at the ends, and it alone
// tells where an edge is that is a point.
func isOn(e Edge, x, y Frac) bool {
	return side(e, x, y) == 0 && isInBox(e, x, y)
}

func isInBox(e Edge, x, y Frac) bool {
	return between(x, e[0].X, e[1].X) && between(y, e[0].Y, e[1].Y)
}

// side is 1 if the place is left of the way from the edge's first end to its
// second, -1 if right of it, 0 if on its line. Both differences are brought to
// the denominator x.D * y.D, which is above 0 and so may be left out.
func side(e Edge, x, y Frac) int {
	across, up := e[1].X-e[0].X, e[1].Y-e[0].Y
	right := (x.N - e[0].X*x.D) * y.D
	above := (y.N - e[0].Y*y.D) * x.D
	return sign(across*above - up*right)
}

package acre

// What Where answers.
const (
	isOut = iota
	isOnEdge
	isIn
)

// Where tells whether a place is out of a field, on it, or in it (P4).
func Where(field [][]Point, x Frac, y Frac) (int, Errno) {
	if !isField(field) || !isWithin(x, maxSide+1) || !isWithin(y, maxSide+1) {
		return 0, ErrArg
	}
	crossings := 0
	for e, times := range tally(edgesOf(field)) {
		if isOn(e, x, y) {
			return isOnEdge, OK
		}
		if isRightOf(e, x, y) {
			crossings += times
		}
	}
	if crossings%2 == 1 {
		return isIn, OK
	}
	return isOut, OK
}

// tally counts how often each edge is there, whichever way it goes: edges
// that lie on one another whole are then looked at once.
func tally(edges []Edge) map[Edge]int {
	times := map[Edge]int{}
	for _, e := range edges {
		times[upward(e)]++
	}
	return times
}

// upward is the edge from its lower end to its upper one, from left to right
// if it is level.
func upward(e Edge) Edge {
	if e[0].Y > e[1].Y || e[0].Y == e[1].Y && e[0].X > e[1].X {
		return Edge{e[1], e[0]}
	}
	return e
}

// isRightOf tells whether a ray from the place to the right meets the edge,
// which goes upward and is not under the place. The upper end is left out:
// that stands for a ray a little higher, which goes through no point.
func isRightOf(e Edge, x, y Frac) bool {
	return compare(y, e[0].Y) >= 0 && compare(y, e[1].Y) < 0 && side(e, x, y) > 0
}

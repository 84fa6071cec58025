package acre

// Meet tells where two edges meet (P5).
func Meet(e Edge, f Edge) (int, Frac, Frac) {
	if !areOnGrid(e[0], e[1], f[0], f[1]) {
		return 0, Frac{}, Frac{}
	}
	if turn := cross(along(e), along(f)); turn != 0 {
		return meetAcross(e, f, turn)
	}
	return meetAlong(e, f)
}

// along is the way from the edge's first end to its second.
func along(e Edge) Point {
	return difference(e[1], e[0])
}

func difference(p, q Point) Point {
	return Point{p.X - q.X, p.Y - q.Y}
}

// cross is 0 if the two ways are parallel or one of them is no way at all.
func cross(v, w Point) int {
	return v.X*w.Y - v.Y*w.X
}

// crossing is where the edges' lines cross; turn is the cross of their ways,
// not 0.
func crossing(e, f Edge, turn int) (Frac, Frac) {
	way := along(e)
	share := cross(difference(f[0], e[0]), along(f)) // of turn: how far along e the place is
	return lowest(e[0].X*turn+share*way.X, turn), lowest(e[0].Y*turn+share*way.Y, turn)
}

// meetAcross is for edges whose lines cross: there the place is the one of
// the lines, if neither edge ends ahead of it.
func meetAcross(e, f Edge, turn int) (int, Frac, Frac) {
	x, y := crossing(e, f, turn)
	if !isInBox(e, x, y) || !isInBox(f, x, y) {
		return 0, Frac{}, Frac{}
	}
	return 1, x, y
}

// meetAlong is for edges that are parallel, or points alone: what they have
// in common ends at ends of theirs, so the ends that are on both tell it all.
func meetAlong(e, f Edge) (int, Frac, Frac) {
	common := map[Point]int{}
	var x, y Frac
	for _, p := range [4]Point{e[0], e[1], f[0], f[1]} {
		px, py := Frac{p.X, 1}, Frac{p.Y, 1}
		if isOn(e, px, py) && isOn(f, px, py) {
			common[p]++
			x, y = px, py
		}
	}
	switch len(common) {
	case 0:
		return 0, Frac{}, Frac{}
	case 1:
		return 1, x, y
	}
	return 2, Frac{}, Frac{}
}

package acre

import "iter"

// band is the two edges that a piece lies between, Low and High.
type band [2]Edge

// Slow makes a certificate that is right (P6).
func Slow(a string, b string, op int) (string, Errno, int) {
	p, err, at := readPair(a, b, op)
	if err != OK {
		return "", err, at
	}
	return writeCert(p.cut(), p.edges), OK, 0
}

// cut makes pieces that are right. There are never too many for a
// certificate: 24 edges have 24 x's where they begin and 276 where their lines
// cross, that is 299 slabs, and 12 bands in each.
func (p pair) cut() []Piece {
	return joined(p.slabs(nil))
}

// joined lengthens a piece as far as its band goes on from slab to slab.
func joined(slabs iter.Seq[slab]) []Piece {
	var pieces []Piece
	last := map[band]int{}
	for s := range slabs {
		for _, b := range s.bands() {
			i, ok := last[b]
			if ok && pieces[i].To == s.from {
				pieces[i].To = s.to
				continue
			}
			last[b] = len(pieces)
			pieces = append(pieces, Piece{s.from, s.to, b[0], b[1]})
		}
	}
	return pieces
}

// bands lists what the op keeps of a slab. Edges between are passed over:
// what is on them is in no need of a piece, and may be in one.
func (s slab) bands() []band {
	var bands []band
	var low Edge
	inside := false
	for _, l := range s.layers {
		switch {
		case l.inside && !inside:
			low = l.edge
		case !l.inside && inside:
			bands = append(bands, band{low, l.edge})
		}
		inside = l.inside
	}
	return bands
}

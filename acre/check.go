package acre

// Check tells whether a certificate is right (P7).
func Check(a string, b string, op int, cert string) (Errno, int) {
	p, err, at := readPair(a, b, op)
	if err != OK {
		return err, at
	}
	_, err, at = p.check(cert)
	return err, at
}

// check answers the pieces of a certificate that is right.
func (p pair) check(cert string) ([]Piece, Errno, int) {
	if len(cert) > maxCert {
		return nil, ErrLong, 0
	}
	pieces, at, ok := readCert(cert, p.edges)
	if !ok {
		return nil, ErrCert, at
	}
	if !p.isFilledBy(pieces) {
		return nil, ErrWrong, 0
	}
	return pieces, OK, 0
}

// isFilledBy tells whether the pieces are right. The x's between slabs need
// no look: around a place there that is on no edge just one piece holds all
// that is a little to the right, or none does, and so it is with the place.
func (p pair) isFilledBy(pieces []Piece) bool {
	var cuts []Frac
	begin, end := map[Frac][]band{}, map[Frac][]band{}
	for _, piece := range pieces {
		b := band{piece.Low, piece.High}
		begin[piece.From] = append(begin[piece.From], b)
		end[piece.To] = append(end[piece.To], b)
		cuts = append(cuts, piece.From, piece.To)
	}
	times := map[band]int{}
	for s := range p.slabs(cuts) {
		for _, b := range begin[s.from] {
			times[b]++
		}
		for _, b := range end[s.from] {
			times[b]--
		}
		if !s.isFilledBy(times) {
			return false
		}
	}
	return true
}

// isFilledBy tells whether the bands hold, so many times each, all that the
// op keeps of the slab once, and nothing else. A bare layer is a part of what
// is around it: there a piece must go across.
func (s slab) isFilledBy(times map[band]int) bool {
	above := make([]int, len(s.layers))
	across := make([]int, len(s.layers))
	for b, n := range times {
		low, high := s.rank[b[0]], s.rank[b[1]]
		for i := low; i < high; i++ {
			above[i] += n
			if i > low {
				across[i] += n
			}
		}
	}
	for i, l := range s.layers {
		due := 0
		if l.inside {
			due = 1
		}
		if above[i] != due || l.bare && across[i] != due {
			return false
		}
	}
	return true
}

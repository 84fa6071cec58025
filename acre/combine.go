package acre

// Combine puts two fields together (P8).
func Combine(a string, b string, op int, offer string) ([]Piece, Errno, int) {
	p, err, at := readPair(a, b, op)
	if err != OK {
		return nil, err, at
	}
	if pieces, err, _ := p.check(offer); err == OK {
		return pieces, OK, 0
	}
	return p.cut(), OK, 0
}

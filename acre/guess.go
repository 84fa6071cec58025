package acre

// Guess guesses a certificate (P6). However the guess turns out, it is short
// enough: the sweep stops at 24 x's where edges begin or end, and at 276
// where two of them cross, and between two stops there are 12 pieces, of 30
// bytes each.
func Guess(a string, b string, op int) (string, Errno, int) {
	p, err, at := readPair(a, b, op)
	if err != OK {
		return "", err, at
	}
	return writeCert(joined(p.sweep()), p.edges), OK, 0
}

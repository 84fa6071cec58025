package acre

// What an op makes of two fields.
const (
	inBoth = iota
	inEither
	inFirstAlone
	inJustOne
)

// raised is how much further a place in the second text is told.
const raised = 1000

// pair is two fields, and the op that puts them together.
type pair struct {
	edges  []Edge // of both fields, by their numbers
	firsts int    // how many of them are the first field's
	op     int
}

// readPair answers the errors that all calls on two texts have in common.
func readPair(a, b string, op int) (pair, Errno, int) {
	first, err, at := Read(a)
	if err != OK {
		return pair{}, err, at
	}
	second, err, at := Read(b)
	if err != OK {
		return pair{}, err, at + raised
	}
	if op < inBoth || op > inJustOne {
		return pair{}, ErrArg, 0
	}
	edges := edgesOf(first)
	return pair{append(edges, edgesOf(second)...), len(edges), op}, OK, 0
}

// keeps tells whether the op keeps a place below which there are so many edges
// of the first field and so many of the second.
func (p pair) keeps(below [2]int) bool {
	first, second := below[0]%2 == 1, below[1]%2 == 1
	switch p.op {
	case inBoth:
		return first && second
	case inEither:
		return first || second
	case inFirstAlone:
		return first && !second
	default:
		return first != second
	}
}

// owner is 0 if the edge of that number is the first field's, and else 1.
func (p pair) owner(number int) int {
	if number < p.firsts {
		return 0
	}
	return 1
}

package acre

import "math"

const longMinus = "\u2212"

// step is what may come next in a text.
type step int

const (
	numberDue step = iota // a minus or a digit
	digitDue              // a digit: a minus stands ahead
	digitMay              // a second digit, or what ends the number
	endDue                // what ends the number
)

// mark is a number of a text, and where it begins.
type mark struct{ at, value int }

// spot is a point of a text: its X and its Y.
type spot [2]mark

// reader is how far a text has been gone through.
type reader struct {
	step  step
	minus bool
	half  int // of now: 0 while X is read, 1 while Y is
	now   spot
	ring  []spot
	rings [][]spot
}

// Read reads a field (P2).
func Read(text string) ([][]Point, Errno, int) {
	if len(text) > maxText {
		return nil, ErrLong, 0
	}
	rings, at, ok := scan(text)
	if !ok {
		return nil, ErrText, at
	}
	if fault, at := firstFault(rings); fault != OK {
		return nil, fault, at
	}
	return pointsOf(rings), OK, 0
}

// scan takes any number of rings and points, and numbers of any greatness: a
// text that is wrong further on is refused for that first.
func scan(text string) ([][]spot, int, bool) {
	var r reader
	if text == "" {
		return nil, 0, true
	}
	for at, c := range text {
		if !r.take(at, c) {
			return nil, at + r.begun(text[at:]), false
		}
	}
	if !r.mayEnd(1) {
		return nil, len(text), false
	}
	r.endRing()
	return r.rings, 0, true
}

// begun counts the bytes of a minus that breaks off: they are not wrong yet.
func (r *reader) begun(rest string) int {
	if r.step != numberDue {
		return 0
	}
	n := 0
	for n < len(longMinus) && n < len(rest) && rest[n] == longMinus[n] {
		n++
	}
	return n
}

// take goes on by one code point; where it answers false nothing has changed.
func (r *reader) take(at int, c rune) bool {
	switch {
	case (c == '-' || c == '\u2212') && r.step == numberDue:
		r.begin(at, true)
	case c >= '0' && c <= '9' && r.step != endDue:
		r.digit(at, int(c-'0'))
	case c == ',' && r.mayEnd(0):
		r.endNumber()
		r.half = 1
	case c == ' ' && r.mayEnd(1):
		r.endPoint()
	case c == ';' && r.mayEnd(1):
		r.endRing()
	default:
		return false
	}
	return true
}

// mayEnd tells whether that half of a point is being read, and has a digit.
func (r *reader) mayEnd(half int) bool {
	return r.half == half && (r.step == digitMay || r.step == endDue)
}

func (r *reader) begin(at int, minus bool) {
	r.now[r.half] = mark{at: at}
	r.minus = minus
	r.step = digitDue
}

// digit leans on the order of the steps: one digit on is one step on.
func (r *reader) digit(at int, d int) {
	if r.step == numberDue {
		r.begin(at, false)
	}
	n := &r.now[r.half]
	n.value = 10*n.value + d
	r.step++
}

func (r *reader) endNumber() {
	if r.minus {
		r.now[r.half].value *= -1
	}
	r.step = numberDue
}

func (r *reader) endPoint() {
	r.endNumber()
	r.ring = append(r.ring, r.now)
	r.half = 0
}

func (r *reader) endRing() {
	r.endPoint()
	r.rings = append(r.rings, r.ring)
	r.ring = nil
}

// firstFault looks for the first place of each fault, and takes the least: of
// two faults at one place the one that the document names first.
func firstFault(rings [][]spot) (Errno, int) {
	const nowhere = math.MaxInt
	far, many, few := nowhere, nowhere, nowhere
	for i, ring := range rings {
		if i >= maxRings {
			many = least(many, begins(ring[0]))
		}
		if len(ring) > maxPoints {
			many = least(many, begins(ring[maxPoints]))
		}
		if len(ring) < minPoints {
			few = least(few, begins(ring[0]))
		}
		for _, p := range ring {
			far = least(far, farAt(p[0], nowhere), farAt(p[1], nowhere))
		}
	}
	switch at := least(far, many, few); at {
	case nowhere:
		return OK, 0
	case far:
		return ErrSide, at
	case many:
		return ErrMany, at
	default:
		return ErrFew, at
	}
}

func begins(p spot) int { return p[0].at }

// farAt is the number's place, if it is too far out, and else otherwise.
func farAt(n mark, otherwise int) int {
	if keepsSide(n.value) {
		return otherwise
	}
	return n.at
}

// pointsOf gives each ring memory of its own.
func pointsOf(rings [][]spot) [][]Point {
	var field [][]Point
	for _, ring := range rings {
		var points []Point
		for _, p := range ring {
			points = append(points, Point{p[0].value, p[1].value})
		}
		field = append(field, points)
	}
	return field
}

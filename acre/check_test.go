package acre_test

import (
	"math/big"
	"math/rand"
	"strings"
	"testing"

	"acre/acre"
)

func checkErrno(t *testing.T, k task, cert string, want acre.Errno) {
	t.Helper()
	if e, at := acre.Check(k.a, k.b, k.op, cert); e != want || at != 0 {
		t.Errorf("P7: Check(%q, %q, %d, %.200q) = %d, %d, want %d, 0", k.a, k.b, k.op, cert, e, at, want)
	}
	if got := isRight(k, parse(cert)); got != (want == acre.OK) {
		t.Errorf("the test is wrong of Check(%q, %q, %d, %.200q): right is %t", k.a, k.b, k.op, cert, got)
	}
}

const (
	beside = "2,0 6,0 6,4 2,4"       // over the right half of the square
	bow    = "0,0 4,4 4,0 0,4"       // edges 0 and 2 cross at 2,2; 1 and 3 are upright
	corner = "0,0 4,0 4,4"           // edge 2 is the square's rising diagonal
	hole   = square + ";1,1 3,1 2,3" // edges 4 (below), 5 (right), 6 (left)
	apart  = "8,2 10,2 10,3"         // edge 0 is on a line through the square's midst
)

// Certificates that are right in other ways than the plainest.
func TestCheckTakes(t *testing.T) {
	for _, c := range []struct {
		task
		cert string
	}{
		{task{square, "", 1}, "0/1 4/1 0 2"},
		{task{square, "", 2}, "0/1 4/1 0 2"},
		{task{square, "", 3}, "0/1 4/1 0 2"},
		{task{"", square, 3}, "0/1 4/1 0 2"},
		{task{"", square, 2}, ""},
		// cut at any x, told in any order
		{task{square, "", 1}, "0/1 1/1152 0 2;1/1152 4607/1152 0 2;4607/1152 4/1 0 2"},
		{task{square, "", 1}, "3/1 4/1 0 2;0/1 1/2 0 2;1/2 3/1 0 2"},
		// any edge of the same line does
		{task{square, square, 0}, "0/1 4/1 4 2"},
		{task{square, square, 0}, "0/1 1/1 4 6;1/1 2/1 0 6;2/1 4/1 0 2"},
		{task{square, "6,0 8,0 8,4 6,4", 2}, "0/1 4/1 4 6"},
		{task{square, "6,0 8,0 8,4 6,4", 1}, "0/1 4/1 4 6;6/1 8/1 0 2"},
		// across an edge, which is itself in no need of a piece
		{task{square, corner, 1}, "0/1 4/1 0 2"},
		{task{square, corner, 1}, "0/1 4/1 0 6;0/1 4/1 6 2"},
		{task{square, beside, 1}, "0/1 6/1 0 2"},
		{task{square, beside, 1}, "0/1 2/1 0 2;2/1 6/1 4 6"},
		{task{square, "0,2 4,2 2,2", 1}, "0/1 4/1 0 4;0/1 4/1 4 2"},
		{task{square, "0,2 4,2 2,2", 1}, "0/1 4/1 0 2"},
		{task{square, "0,2 4,2 2,2", 1}, "0/1 2/1 0 2;2/1 4/1 0 5;2/1 4/1 4 2"},
		// where lines cross there is only what is above Low and below High
		{task{bow, "", 1}, "0/1 2/1 0 2;2/1 4/1 2 0"},
		{task{bow, "", 1}, "0/1 4/1 0 2;0/1 4/1 2 0"},
		{task{bow, "", 1}, "0/1 3/1 0 2;1/1 4/1 2 0;0/1 1/1 2 0;3/1 4/1 0 2"},
		// pieces with nothing in them
		{task{square, "", 1}, "0/1 4/1 0 2;-12/1 12/1 2 0;0/1 4/1 0 0;-12/1 12/1 2 2"},
		{task{square, "", 0}, "-12/1 12/1 2 0;-12/1 12/1 2 0"},
		{task{"0,0 4,0 2,0", "", 1}, "-12/1 12/1 0 1;0/1 1/1 2 0"},
		// holes
		{task{hole, "", 1}, "0/1 1/1 0 2;1/1 3/1 0 4;1/1 2/1 6 2;2/1 3/1 5 2;3/1 4/1 0 2"},
		{task{square, "1,1 3,1 2,3", 2}, "0/1 1/1 0 2;1/1 3/1 0 4;1/1 2/1 6 2;2/1 3/1 5 2;3/1 4/1 0 2"},
		{task{square, "1,1 3,1 2,3", 0}, "1/1 2/1 4 6;2/1 3/1 4 5"},
		{task{square, "1,1 3,1 2,3", 1}, "0/1 4/1 0 2"},
		// nothing is left of rings that lie on one another
		{task{square + ";" + square, "", 1}, ""},
		{task{square, "4,4 4,0 0,0 0,4", 3}, ""},
		{task{"1,1 1,1 1,1", "2,0 2,4 2,7", 1}, ""},
	} {
		checkErrno(t, c.task, c.cert, acre.OK)
	}
}

func TestCheckRefuses(t *testing.T) {
	for _, c := range []struct {
		task
		cert string
	}{
		// too little, too much, twice
		{task{square, "", 1}, ""},
		{task{square, "", 1}, "0/1 4/1 2 0"},
		{task{square, "", 1}, "0/1 4/1 0 0"},
		{task{square, "", 1}, "0/1 4607/1152 0 2"},
		{task{square, "", 1}, "1/1152 4/1 0 2"},
		{task{square, "", 1}, "0/1 4609/1152 0 2"},
		{task{square, "", 1}, "-1/1152 4/1 0 2"},
		{task{square, "", 1}, "-12/1 12/1 0 2"},
		{task{square, "", 1}, "0/1 4/1 0 2;0/1 4/1 0 2"},
		{task{square, "", 1}, "0/1 4/1 0 2;2/1 2305/1152 0 2"},
		{task{square, "", 1}, "0/1 2/1 0 2;2305/1152 4/1 0 2"},
		{task{square, "", 1}, "0/1 1/1151 0 2;1/1152 4/1 0 2"},
		{task{square, "", 1}, "0/1 1/1152 0 2;1/1151 4/1 0 2"},
		{task{square, "", 1}, "4/1 5/1 0 2"},
		{task{square, "", 0}, "0/1 4/1 0 2"},
		{task{"", square, 2}, "0/1 4/1 0 2"},
		{task{square, square, 3}, "0/1 4/1 0 2"},
		{task{"0,0 4,0 2,0", square, 0}, "0/1 4/1 3 5"},
		// what is right of another op
		{task{square, beside, 0}, "0/1 6/1 0 2"},
		{task{square, beside, 1}, "2/1 4/1 0 2"},
		{task{square, beside, 2}, "4/1 6/1 0 2"},
		{task{square, beside, 3}, "0/1 2/1 0 2"},
		{task{beside, square, 2}, "0/1 2/1 0 2"},
		// along a line with no edge on it, or with one only further on
		{task{square, apart, 1}, "0/1 4/1 0 4;0/1 4/1 4 2;8/1 10/1 4 6"},
		{task{square, "0,2 2,2 1,2", 1}, "0/1 4/1 0 4;0/1 4/1 4 2"},
		{task{square, "0,2 2,2 1,2", 1}, "0/1 2305/1152 0 4;0/1 2305/1152 4 2;2305/1152 4/1 0 2"},
		{task{square, "-1,-1 0,0 -2,-2", 1}, "0/1 4/1 0 4;0/1 4/1 4 2"},
		// the wedge on one side of a crossing is missed, or is there twice
		{task{bow, "", 1}, "0/1 4/1 0 2"},
		{task{bow, "", 1}, "0/1 4/1 0 2;2/1 4/1 2 0;3/1 4/1 2 0"},
		{task{square, bow, 1}, "0/1 2/1 0 2;2/1 4/1 0 6;2/1 4/1 4 2"},
		// a ring that goes over itself, or round twice, holds nothing
		{task{"0,0 4,0 4,4 0,0 4,0 4,4", "", 1}, "0/1 4/1 0 2"},
		{task{square + ";" + square, "", 1}, "0/1 4/1 0 2"},
		{task{hole, "", 1}, "0/1 4/1 0 2"},
	} {
		checkErrno(t, c.task, c.cert, acre.ErrWrong)
	}
}

// tally counts how often Check took a certificate and how often it did not,
// so that a test can tell whether it saw enough of both.
type tally struct{ right, wrong int }

func (n *tally) hold(t *testing.T, k task, pieces []laid) {
	t.Helper()
	want := acre.ErrWrong
	n.wrong++
	if isRight(k, pieces) {
		want = acre.OK
		n.wrong--
		n.right++
	}
	if e, at := acre.Check(k.a, k.b, k.op, write(pieces)); e != want || at != 0 {
		t.Errorf("P7: Check(%q, %q, %d, %q) = %d, %d, want %d, 0", k.a, k.b, k.op, write(pieces), e, at, want)
	}
}

// write of the test writes a whole number as big.Rat does, with its D.
func TestWriteOfTheTest(t *testing.T) {
	const cert = "-3/2 4/1 0 7;0/1 1/1152 10 2"
	if got := write(parse(cert)); got != cert {
		t.Errorf("the test writes %q", got)
	}
}

// spoil changes one thing about the pieces; not always does that matter.
func spoil(r *rand.Rand, pieces []laid, lines []int) []laid {
	pieces = append([]laid{}, pieces...)
	line := func() int { return lines[r.Intn(len(lines))] }
	some := func() *big.Rat { d := 1 + r.Intn(6); return rat(r.Intn(8*d+1)-4*d, d) }
	if len(pieces) == 0 || r.Intn(8) == 0 {
		from := some()
		return append(pieces, laid{from, add(from, rat(1, 1+r.Intn(9))), line(), line()})
	}
	i := r.Intn(len(pieces))
	p := &pieces[i]
	switch r.Intn(8) {
	case 0: // left out
		pieces = append(pieces[:i], pieces[i+1:]...)
	case 1: // laid twice
		pieces = append(pieces, *p)
	case 2: // moved
		by := rat(r.Intn(7)-3, 1152)
		p.from, p.to = add(p.from, by), add(p.to, by)
	case 3: // shorter or longer
		if to := some(); to.Cmp(p.from) > 0 {
			p.to = to
		}
	case 4: // another edge
		p.low = line()
	case 5:
		p.high = line()
	case 6: // turned over
		p.low, p.high = p.high, p.low
	default: // in two
		at := quo(add(p.from, p.to), rat(2, 1))
		pieces = append(pieces, laid{at, p.to, p.low, p.high})
		pieces[i].to = at
	}
	return pieces
}

// keepsLimits tells whether each piece may be written in a certificate.
func keepsLimits(pieces []laid) bool {
	for _, p := range pieces {
		for _, x := range []*big.Rat{p.from, p.to} {
			if x.Denom().Int64() > 1152 || x.Cmp(rat(12, 1)) > 0 || x.Cmp(rat(-12, 1)) < 0 {
				return false
			}
		}
	}
	return true
}

func linesOf(k task) []int {
	var lines []int
	for i, e := range k.edges() {
		if !upright(e) {
			lines = append(lines, i)
		}
	}
	return lines
}

func TestCheckSpoiltPieces(t *testing.T) {
	t.Parallel()
	r := rand.New(rand.NewSource(9))
	var n tally
	for i := range 700 {
		side := []int{1, 2, 3, 4}[r.Intn(4)]
		k := task{someText(r, side, 2, 4), someText(r, side, 1, 4), i % 4}
		lines := linesOf(k)
		if len(lines) == 0 {
			continue
		}
		cert, _, _ := acre.Slow(k.a, k.b, k.op)
		whole := parse(cert)
		for range 5 {
			pieces := spoil(r, whole, lines)
			if r.Intn(3) == 0 {
				pieces = spoil(r, pieces, lines)
			}
			if keepsLimits(pieces) {
				n.hold(t, k, pieces)
			}
		}
	}
	if n.right < 300 || n.wrong < 1000 {
		t.Errorf("too few of a kind: %d right, %d wrong", n.right, n.wrong)
	}
}

// A certificate goes on being right, when pieces are cut in two, told in
// another order, and when empty ones come in between.
func TestCheckOtherCuts(t *testing.T) {
	r := rand.New(rand.NewSource(10))
	for i := range 200 {
		k := task{someText(r, 4, 2, 6), someText(r, 4, 2, 6), i % 4}
		cert, _, _ := acre.Slow(k.a, k.b, k.op)
		pieces := parse(cert)
		for j := range pieces {
			at := quo(add(pieces[j].from, pieces[j].to), rat(2, 1))
			if at.Denom().Int64() <= 1152 {
				pieces = append(pieces, laid{at, pieces[j].to, pieces[j].low, pieces[j].high})
				pieces[j].to = at
			}
		}
		if lines := linesOf(k); len(lines) > 0 {
			n := lines[r.Intn(len(lines))]
			pieces = append(pieces, laid{rat(-12, 1), rat(12, 1), n, n})
		}
		r.Shuffle(len(pieces), func(i, j int) { pieces[i], pieces[j] = pieces[j], pieces[i] })
		if e, at := acre.Check(k.a, k.b, k.op, write(pieces)); e != acre.OK || at != 0 {
			t.Errorf("P7: Check(%q, %q, %d, %q) = %d, %d", k.a, k.b, k.op, write(pieces), e, at)
		}
	}
}

// One of Slow's pieces may never be left out or laid twice.
func TestCheckEveryPieceCounts(t *testing.T) {
	t.Parallel()
	for i, a := range kinds {
		k := task{a, kinds[(i+5)%len(kinds)], 1 + i%3}
		cert, _, _ := acre.Slow(k.a, k.b, k.op)
		whole := parse(cert)
		for j, p := range whole {
			without := append(append([]laid{}, whole[:j]...), whole[j+1:]...)
			checkErrno(t, k, write(without), acre.ErrWrong)
			checkErrno(t, k, write(append(append([]laid{}, whole...), p)), acre.ErrWrong)
		}
	}
}

// sliced is a square of the whole plane in so many pieces.
func sliced(n int) string {
	var pieces []laid
	for i := range n {
		pieces = append(pieces, laid{add(rat(-12, 1), rat(24*i, n)), add(rat(-12, 1), rat(24*(i+1), n)), 0, 2})
	}
	return write(pieces)
}

func TestCheckManyPieces(t *testing.T) {
	const whole = "-12,-12 12,-12 12,12 -12,12"
	k := task{whole, "", 1}
	for n, want := range map[int]acre.Errno{1: acre.OK, 24 * 100: acre.OK, 4000: acre.OK} {
		if e, at := acre.Check(k.a, k.b, k.op, sliced(n)); e != want || at != 0 {
			t.Errorf("P7: Check of %d pieces = %d, %d, want %d", n, e, at, want)
		}
	}
	most := sliced(4000)
	if e, at := acre.Check(k.a, k.b, k.op, most+";12/1 -12/1 0 2"); e != acre.ErrCert || at != len(most)+1 {
		t.Errorf("P7: Check of 4001 pieces = %d, %d, want %d, %d", e, at, acre.ErrCert, len(most)+1)
	}
	if e, at := acre.Check(k.a, k.b, k.op, most[:strings.LastIndex(most, ";")]); e != acre.ErrWrong || at != 0 {
		t.Errorf("P7: Check of all pieces but the last = %d, %d", e, at)
	}
	empty := strings.Repeat("-12/1 12/1 2 0;", 3999) + "-12/1 12/1 0 2"
	checkErrno(t, k, "-12/1 12/1 2 0;-12/1 12/1 0 2", acre.OK)
	if e, at := acre.Check(k.a, k.b, k.op, empty); e != acre.OK || at != 0 {
		t.Errorf("P7: Check of one piece behind 3999 with nothing in them = %d, %d", e, at)
	}
}

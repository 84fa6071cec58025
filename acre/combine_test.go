package acre_test

import (
	"math/big"
	"math/rand"
	"slices"
	"strings"
	"testing"

	"acre/acre"
)

func combine(t *testing.T, k task, offer string) []acre.Piece {
	t.Helper()
	pieces, e, at := acre.Combine(k.a, k.b, k.op, offer)
	if e != acre.OK || at != 0 {
		t.Fatalf("P8: Combine(%q, %q, %d, %.100q) = %v, %d, %d", k.a, k.b, k.op, offer, pieces, e, at)
	}
	return pieces
}

// piecesOf are the pieces that a certificate tells of.
func piecesOf(k task, cert string) []acre.Piece {
	var pieces []acre.Piece
	edges := k.edges()
	for _, p := range parse(cert) {
		pieces = append(pieces, acre.Piece{From: asFrac(p.from), To: asFrac(p.to), Low: edges[p.low], High: edges[p.high]})
	}
	return pieces
}

// certOf is the certificate that tells of the pieces; it fails where one of
// them has an edge that is none of the fields'.
func certOf(t *testing.T, k task, pieces []acre.Piece) string {
	t.Helper()
	var list []laid
	for _, p := range pieces {
		low, high := slices.Index(k.edges(), p.Low), slices.Index(k.edges(), p.High)
		if low < 0 || high < 0 || p.From.D == 0 || p.To.D == 0 {
			t.Fatalf("P8: Combine(%q, %q, %d, ..) answers the piece %v", k.a, k.b, k.op, p)
		}
		list = append(list, laid{rat(p.From.N, p.From.D), rat(p.To.N, p.To.D), low, high})
	}
	return write(list)
}

// holdTaken holds that the pieces of an offer come back in its order.
func holdTaken(t *testing.T, k task, offer string) {
	t.Helper()
	if e, at := acre.Check(k.a, k.b, k.op, offer); e != acre.OK {
		t.Fatalf("P7: Check(%q, %q, %d, %.200q) = %d, %d", k.a, k.b, k.op, offer, e, at)
	}
	if got, want := combine(t, k, offer), piecesOf(k, offer); !slices.Equal(got, want) {
		t.Errorf("P8: Combine(%q, %q, %d, %.200q) = %v, want %v", k.a, k.b, k.op, offer, got, want)
	}
}

// ownPieces are those that Combine makes itself: it is offered what is no
// certificate. They are held against the document's words.
func ownPieces(t *testing.T, k task) []acre.Piece {
	t.Helper()
	own := combine(t, k, "x")
	cert := certOf(t, k, own)
	if _, faulty := limitFault(cert, k.edges()); faulty || !isRight(k, parse(cert)) {
		t.Errorf("P8: Combine(%q, %q, %d, \"x\") = %v, which are not right", k.a, k.b, k.op, own)
	}
	for _, p := range own {
		if p.From != asFrac(rat(p.From.N, p.From.D)) || p.To != asFrac(rat(p.To.N, p.To.D)) {
			t.Errorf("P8: Combine(%q, %q, %d, \"x\") answers %v, not in lowest terms", k.a, k.b, k.op, p)
		}
	}
	return own
}

// hold offers a text of any kind: the test's own words say whether its pieces
// must come back, or those that Combine makes itself.
func hold(t *testing.T, k task, own []acre.Piece, offer string) bool {
	t.Helper()
	faulty := !wholeCert.MatchString(offer)
	if !faulty {
		_, faulty = limitFault(offer, k.edges())
	}
	want, taken := own, !faulty && isRight(k, parse(offer))
	if taken {
		want = piecesOf(k, offer)
	}
	if got := combine(t, k, offer); !slices.Equal(got, want) {
		t.Errorf("P8: Combine(%q, %q, %d, %.200q) = %v, want %v", k.a, k.b, k.op, offer, got, want)
	}
	return taken
}

func TestCombineAllKinds(t *testing.T) {
	t.Parallel()
	for i, a := range kinds {
		for j, b := range kinds {
			k := task{a, b, (i + 2*j) % 4}
			own := ownPieces(t, k)
			slow, _, _ := acre.Slow(k.a, k.b, k.op)
			guess, _, _ := acre.Guess(k.a, k.b, k.op)
			holdTaken(t, k, slow)
			holdTaken(t, k, certOf(t, k, own))
			if e, _ := acre.Check(k.a, k.b, k.op, guess); e == acre.OK {
				holdTaken(t, k, guess)
			}
		}
	}
}

func TestCombineAllOps(t *testing.T) {
	for i, a := range kinds {
		for op := range 4 {
			k := task{a, kinds[(i+7)%len(kinds)], op}
			hold(t, k, ownPieces(t, k), "")
		}
	}
}

func TestCombineAnswers(t *testing.T) {
	low, high := edge(0, 0, 4, 0), edge(4, 4, 0, 4)
	piece := func(from, to int) acre.Piece {
		return acre.Piece{From: frac(from, 1), To: frac(to, 1), Low: low, High: high}
	}
	turned := acre.Piece{From: frac(-12, 1), To: frac(12, 1), Low: high, High: low}
	plain := task{square, "", 1}
	for _, c := range []struct {
		task
		offer string
		want  []acre.Piece
	}{
		{plain, "0/1 4/1 0 2", []acre.Piece{piece(0, 4)}},
		{plain, "3/1 4/1 0 2;0/1 1/1 0 2;1/1 3/1 0 2", []acre.Piece{piece(3, 4), piece(0, 1), piece(1, 3)}},
		{plain, "-12/1 12/1 2 0;0/1 4/1 0 2", []acre.Piece{turned, piece(0, 4)}},
		{plain, "0/1 4/1 0 2;-12/1 12/1 2 0;-12/1 12/1 2 0", []acre.Piece{piece(0, 4), turned, turned}},
		{plain, "0/1 4/1 0 2;0/1 4/1 0 2", []acre.Piece{piece(0, 4)}},
		{plain, "0/1 3/1 0 2", []acre.Piece{piece(0, 4)}},
		{plain, "", []acre.Piece{piece(0, 4)}},
		{plain, "0/1 4/1 0 2;", []acre.Piece{piece(0, 4)}},
		{plain, "0/1 2/1 0 2;2/1 4/1 0 2;", []acre.Piece{piece(0, 4)}},
		{plain, "0/1 2/1 0 2;4/2 4/1 0 2", []acre.Piece{piece(0, 4)}},
		{plain, "0/1 2/1 0 2;2/1 4/1 0 4", []acre.Piece{piece(0, 4)}},
		{task{"", "", 1}, "", nil},
		{task{"", "", 1}, "x", nil},
		{task{square, square, 3}, "0/1 4/1 0 2", nil},
		{task{square, square, 3}, "0/1 4/1 2 0", []acre.Piece{{From: frac(0, 1), To: frac(4, 1), Low: high, High: low}}},
	} {
		if got := combine(t, c.task, c.offer); !slices.Equal(got, c.want) {
			t.Errorf("P8: Combine(%q, %q, %d, %q) = %v, want %v", c.a, c.b, c.op, c.offer, got, c.want)
		}
	}
}

// Pieces that are cut in two, told in another order, and have empty ones
// between them come back just so.
func TestCombineTakesOtherCuts(t *testing.T) {
	r := rand.New(rand.NewSource(13))
	for i := range 200 {
		k := task{someText(r, 4, 2, 6), someText(r, 4, 2, 6), i % 4}
		cert, _, _ := acre.Slow(k.a, k.b, k.op)
		pieces := parse(cert)
		for j, p := range pieces {
			if at := quo(add(p.from, p.to), rat(2, 1)); at.Denom().Int64() <= 1152 {
				pieces = append(pieces, laid{at, p.to, p.low, p.high})
				pieces[j].to = at
			}
		}
		if lines := linesOf(k); len(lines) > 0 {
			n := lines[r.Intn(len(lines))]
			pieces = append(pieces, laid{rat(-12, 1), rat(12, 1), n, n})
		}
		r.Shuffle(len(pieces), func(i, j int) { pieces[i], pieces[j] = pieces[j], pieces[i] })
		holdTaken(t, k, write(pieces))
	}
}

func TestCombineManyPieces(t *testing.T) {
	k := task{"-12,-12 12,-12 12,12 -12,12", "", 1}
	holdTaken(t, k, sliced(4000))
	own := ownPieces(t, k)
	for _, offer := range []string{
		sliced(4001), sliced(4000) + ";-12/1 12/1 2 0", sliced(4000) + ";", strings.Repeat("-12/1 12/1 2 0;", 4000) + "-12/1 12/1 0 2",
		strings.Repeat("x", 200000), strings.Repeat("x", 200001), strings.Repeat("-12/1 12/1 2 0;", 13333), strings.Repeat("-12/1 12/1 2 0;", 20000) + "-12/1 12/1 0 2", strings.Repeat("0", 1<<22), "-12/1 12/1 0 " + strings.Repeat("2", 199980),
	} {
		if got := combine(t, k, offer); !slices.Equal(got, own) {
			t.Errorf("P8: Combine with %d bytes offered, %.40q = %v, want %v", len(offer), offer, got, own)
		}
	}
}

// Each piece in turn is left out, laid twice, moved, and given another edge.
func TestCombineSpoiltPieces(t *testing.T) {
	t.Parallel()
	taken, refused := 0, 0
	count := func(ok bool) {
		if ok {
			taken++
		} else {
			refused++
		}
	}
	for i, a := range kinds {
		k := task{a, kinds[(i+6)%len(kinds)], 1 + i%3}
		own := ownPieces(t, k)
		cert, _, _ := acre.Slow(k.a, k.b, k.op)
		whole := parse(cert)
		for j, p := range whole {
			with := func(q ...laid) string { return write(slices.Replace(slices.Clone(whole), j, j+1, q...)) }
			by := rat(1, 1)
			for _, offer := range []string{
				with(), with(p, p),
				with(laid{add(p.from, by), add(p.to, by), p.low, p.high}), with(laid{sub(p.from, by), sub(p.to, by), p.low, p.high}),
				with(laid{p.from, p.to, p.high, p.low}),
			} {
				count(hold(t, k, own, offer))
			}
			for _, n := range linesOf(k) {
				count(hold(t, k, own, with(laid{p.from, p.to, n, p.high})))
				count(hold(t, k, own, with(laid{p.from, p.to, p.low, n})))
			}
		}
	}
	if taken < 100 || refused < 500 {
		t.Errorf("too few of a kind: %d taken, %d refused", taken, refused)
	}
}

func TestCombineSomeFields(t *testing.T) {
	t.Parallel()
	r := rand.New(rand.NewSource(14))
	for i := range 150 {
		side := []int{1, 2, 3, 12}[i%4]
		k := task{someText(r, side, 2, 4), someText(r, side, 1, 4), i / 4 % 4}
		own, lines := ownPieces(t, k), linesOf(k)
		if len(lines) == 0 {
			continue
		}
		cert, _, _ := acre.Slow(k.a, k.b, k.op)
		for range 5 {
			hold(t, k, own, write(spoil(r, parse(cert), lines)))
		}
	}
}

// Offers that break off at any byte, and such with any byte out of joint.
func TestCombineSpoiltTexts(t *testing.T) {
	t.Parallel()
	for _, k := range []task{{hole, beside, 1}, {"-1,2 5,2 -1,0 2,6 5,0", corner, 3}} {
		own := ownPieces(t, k)
		cert, _, _ := acre.Slow(k.a, k.b, k.op)
		for i := range len(cert) {
			offers := []string{cert[:i]}
			if len(cert) < 300 {
				offers = append(offers, cert[i:], cert[:i]+cert[i+1:])
				for _, b := range []byte("0129-/ ;x\x00\xff") {
					offers = append(offers, cert[:i]+string([]byte{b})+cert[i+1:], cert[:i]+string([]byte{b})+cert[i:])
				}
			}
			for _, offer := range offers {
				hold(t, k, own, offer)
			}
		}
	}
}

// Certificates of other fields and of other ops are offers like any other.
func TestCombineOthersOffers(t *testing.T) {
	for i, a := range kinds {
		k := task{a, kinds[(i+3)%len(kinds)], i % 4}
		own := ownPieces(t, k)
		for j, b := range kinds {
			offer, _, _ := acre.Slow(b, kinds[(j+4)%len(kinds)], j%4)
			hold(t, k, own, offer)
		}
		for op := range 4 {
			offer, _, _ := acre.Slow(k.a, k.b, op)
			hold(t, k, own, offer)
			offer, _, _ = acre.Slow(k.b, k.a, op)
			hold(t, k, own, offer)
		}
	}
}

// What is in one of the pieces is what Where tells to be in.
func TestCombineIsAsWhere(t *testing.T) {
	r := rand.New(rand.NewSource(15))
	for i := range 200 {
		k := task{someText(r, 5, 2, 6), someText(r, 5, 2, 6), i % 4}
		a, _, _ := acre.Read(k.a)
		b, _, _ := acre.Read(k.b)
		guess, _, _ := acre.Guess(k.a, k.b, k.op)
		for _, offer := range []string{"x", guess} {
			pieces := combine(t, k, offer)
			for range 30 {
				d := 1 + r.Intn(9)
				x, y := rat(r.Intn(12*d+1)-6*d, d), rat(r.Intn(12*d+1)-6*d, d)
				first, _ := acre.Where(a, asFrac(x), asFrac(y))
				second, _ := acre.Where(b, asFrac(x), asFrac(y))
				if first == 1 || second == 1 {
					continue
				}
				times := timesInPieces(pieces, x, y)
				if want := keeps(k.op, first == 2, second == 2); want != (times == 1) || times > 1 {
					t.Errorf("P4, P8: Combine(%q, %q, %d, %q): %v, %v is in %d pieces; kept: %t", k.a, k.b, k.op, offer, x, y, times, want)
				}
			}
		}
	}
}

// timesInPieces counts the pieces that the place is in.
func timesInPieces(pieces []acre.Piece, x, y *big.Rat) int {
	times := 0
	for _, p := range pieces {
		from, to := rat(p.From.N, p.From.D), rat(p.To.N, p.To.D)
		if x.Cmp(from) >= 0 && x.Cmp(to) < 0 && y.Cmp(heightAt(p.Low, x)) > 0 && y.Cmp(heightAt(p.High, x)) < 0 {
			times++
		}
	}
	return times
}

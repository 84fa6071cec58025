package acre_test

import (
	"math/big"
	"math/rand"
	"regexp"
	"slices"
	"strconv"
	"strings"
	"testing"

	"acre/acre"
)

const (
	fracForm  = `(0|-?[1-9][0-9]{0,4})/(0|[1-9][0-9]{0,3})`
	pieceForm = fracForm + ` ` + fracForm + ` (0|[1-9][0-9]*) (0|[1-9][0-9]*)`
)

var wholeCert = regexp.MustCompile(`^(` + pieceForm + `(;` + pieceForm + `)*)?$`)

// certMayGoOn tells whether some certificate begins so: the rest of one is
// always an end of the same plain piece.
func certMayGoOn(start string) bool {
	const plain = "1/1 1/1 1 1"
	for i := range len(plain) + 1 {
		if wholeCert.MatchString(start + plain[i:]) {
			return true
		}
	}
	return false
}

func certFault(text string) (int, bool) {
	if wholeCert.MatchString(text) {
		return 0, false
	}
	at := 0
	for at < len(text) && certMayGoOn(text[:at+1]) {
		at++
	}
	return at, true
}

// fits tells whether a fraction that is written so keeps all limits.
func fits(text string) (*big.Rat, bool) {
	over, under, _ := strings.Cut(text, "/")
	d, _ := strconv.Atoi(under)
	if d == 0 || d > 1152 {
		return nil, false
	}
	f, _ := new(big.Rat).SetString(text)
	small := f.Cmp(rat(12, 1)) <= 0 && f.Cmp(rat(-12, 1)) >= 0
	return f, small && f.Num().String() == over && f.Denom().String() == under
}

// limitFault finds the first place of a whole text where a limit is passed:
// it lists all such places, and takes the least.
func limitFault(text string, edges []acre.Edge) (int, bool) {
	var places []int
	at := 0
	for i, piece := range strings.Split(text, ";") {
		if text == "" {
			break
		}
		parts := strings.Split(piece, " ")
		from, fromFits := fits(parts[0])
		to, toFits := fits(parts[1])
		if i >= 4000 || fromFits && toFits && from.Cmp(to) >= 0 {
			places = append(places, at)
		}
		for j, part := range parts {
			n, err := strconv.Atoi(part)
			if j == 0 && !fromFits || j == 1 && !toFits || j > 1 && (err != nil || n >= len(edges) || upright(edges[n])) {
				places = append(places, at)
			}
			at += len(part) + 1
		}
	}
	if len(places) == 0 {
		return 0, false
	}
	return slices.Min(places), true
}

// holdCert holds what Check says of a text that may be no certificate.
func holdCert(t *testing.T, k task, text string) bool {
	t.Helper()
	want, faulty := certFault(text)
	if !faulty {
		want, faulty = limitFault(text, k.edges())
	}
	e, at := acre.Check(k.a, k.b, k.op, text)
	if faulty && (e != acre.ErrCert || at != want) || !faulty && (e != acre.OK && e != acre.ErrWrong || at != 0) {
		t.Errorf("P7: Check(%q, %q, %d, %.100q) = %d, %d; no certificate: %t, at %d", k.a, k.b, k.op, text, e, at, faulty, want)
	}
	return faulty
}

func TestCertRefused(t *testing.T) {
	k := task{square, "", 1}
	const good = "0/1 4/1 0 2"
	for _, c := range []struct {
		cert string
		at   int
	}{
		// no certificate's text
		{"x", 0}, {" ", 0}, {";", 0}, {good + ";", 12}, {good + ";;" + good, 12}, {";" + good, 0}, {good + " ", 11}, {good + ",", 11}, {good + "\n", 11}, {good + "\x00", 11}, {good + ";x", 12}, {"\x00", 0}, {"\xff", 0},
		{"0", 1}, {"-", 1}, {"0/", 2}, {"0/1", 3}, {"0/1 ", 4}, {"0/1 4/1", 7}, {"0/1 4/1 0", 9}, {"0/1 4/1 0 ", 10}, {"0 4/1 0 2", 1}, {"/1 4/1 0 2", 0}, {"0/1;4/1 0 2", 3}, {"0/1 4/1 0 2 2", 11}, {"0/1 4/1 0;2", 9}, {"0/1 4/1 0/1 2", 9}, {"0/1  4/1 0 2", 4}, {"0/1\t4/1 0 2", 3}, {" " + good, 0}, {"0/1 4 /1 0 2", 5},
		{"00/1 4/1 0 2", 1}, {"01/1 4/1 0 2", 1}, {"0/01 4/1 0 2", 3}, {"0/00 4/1 0 2", 3}, {"-0/1 4/1 0 2", 1}, {"-01/1 4/1 0 2", 1}, {"--1/1 4/1 0 2", 1}, {"+1/1 4/1 0 2", 0}, {"\u22121/1 4/1 0 2", 0}, {"0/-1 4/1 0 2", 2}, {"0/1 4/1 00 2", 9}, {"0/1 4/1 0 02", 11}, {"0/1 4/1 -1 2", 8}, {"0/1 4/1 -0 2", 8}, {"0/1 4/1 0 -2", 10},
		{"123456/1 4/1 0 2", 5}, {"-123456/1 4/1 0 2", 6}, {"0/12345 4/1 0 2", 6}, {"0/1 123456/1 0 2", 9},
		// ahead of all that breaks a limit
		{"0/2 4/1 0 x", 10}, {"0/0 99/1 9 9;", 13}, {"4/1 4/1 9 9 ", 11}, {"0/1 4/1 9 9;0/1 4/1 0", 21},
		// fractions
		{"0/2 4/1 0 2", 0}, {"0/1 8/2 0 2", 4}, {"0/1152 4/1 0 2", 0}, {"-2/4 4/1 0 2", 0}, {"0/0 4/1 0 2", 0}, {"1/0 4/1 0 2", 0}, {"0/1 4/0 0 2", 4}, {"1/1153 4/1 0 2", 0}, {"1/9999 4/1 0 2", 0}, {"0/1 4611/1153 0 2", 4}, {"13/1 14/1 0 2", 0}, {"-13/1 4/1 0 2", 0}, {"0/1 13/1 0 2", 4}, {"0/1 13825/1152 0 2", 4}, {"-13825/1152 4/1 0 2", 0}, {"0/1 99999/1 0 2", 4}, {"-99999/9999 4/1 0 2", 0}, {"-12/1 12/2 0 2", 6},
		// pieces that end where they begin, or ahead of it
		{"4/1 4/1 0 2", 0}, {"4/1 0/1 0 2", 0}, {"0/1 -1/1152 0 2", 0}, {"1/1151 1/1152 0 2", 0}, {"12/1 12/1 0 2", 0}, {good + ";4/1 0/1 9 9", 12}, {good + ";4/1 0/2 9 9", 16}, {good + ";4/2 0/1 9 9", 12}, {good + ";13/1 0/1 9 9", 12},
		// edges that there are not, and upright ones
		{"0/1 4/1 4 2", 8}, {"0/1 4/1 0 4", 10}, {"0/1 4/1 1 2", 8}, {"0/1 4/1 0 3", 10}, {"0/1 4/1 1 3", 8}, {"0/1 4/1 10 2", 8}, {"0/1 4/1 0 99", 10}, {"0/1 4/1 0 4294967298", 10}, {"0/1 4/1 18446744073709551616 2", 8}, {"0/1 4/1 0 " + strings.Repeat("2", 199990), 10}, {"0/1 4/1 1" + strings.Repeat("0", 100) + " 2", 8},
		// the first of several
		{good + ";0/2 4/1 0 2;0/0 4/1 0 2", 12}, {good + ";0/1 4/1 9 2;0/0 4/1 0 2", 20}, {"0/1 8/2 9 9", 4}, {"0/1 4/1 9 9", 8},
	} {
		if e, at := acre.Check(k.a, k.b, k.op, c.cert); e != acre.ErrCert || at != c.at {
			t.Errorf("P7: Check(.., %.60q) = %d, %d, want %d, %d", c.cert, e, at, acre.ErrCert, c.at)
		}
		if len(c.cert) < 1000 && !holdCert(t, k, c.cert) {
			t.Errorf("the test takes %q", c.cert)
		}
	}
}

func TestCertEdgesOfBoth(t *testing.T) {
	for _, c := range []struct {
		task
		cert string
		e    acre.Errno
		at   int
	}{
		{task{"", "", 1}, "0/1 1/1 0 0", acre.ErrCert, 8},
		{task{"1,1 1,1 1,1", "", 1}, "0/1 1/1 0 0", acre.ErrCert, 8},
		{task{square, "2,0 2,4 2,7", 1}, "0/1 4/1 0 6", acre.ErrCert, 10},
		{task{square, "0,0 2,0 1,1", 1}, "0/1 4/1 4 2", acre.OK, 0},
		{task{square, "0,0 2,0 1,1", 1}, "0/1 4/1 6 2", acre.ErrWrong, 0},
		{task{square, "0,0 2,0 1,1", 1}, "0/1 4/1 7 2", acre.ErrCert, 8},
		{task{great[0], great[1], 1}, "0/1 4/1 23 23", acre.ErrWrong, 0},
		{task{great[0], great[1], 1}, "0/1 4/1 23 24", acre.ErrCert, 11},
	} {
		if e, at := acre.Check(c.a, c.b, c.op, c.cert); e != c.e || at != c.at {
			t.Errorf("P7: Check(%q, %q, %d, %q) = %d, %d, want %d, %d", c.a, c.b, c.op, c.cert, e, at, c.e, c.at)
		}
	}
}

func TestCertLength(t *testing.T) {
	most := strings.Repeat("0/1 4/1 0 2;", 16665)
	most += strings.Repeat("1", 200000-len(most))
	for _, c := range []struct {
		cert string
		e    acre.Errno
		at   int
	}{
		{strings.Repeat("x", 200000), acre.ErrCert, 0}, {strings.Repeat("x", 200001), acre.ErrLong, 0}, {strings.Repeat("0/1 4/1 0 2;", 20000), acre.ErrLong, 0}, {most, acre.ErrCert, 16665*12 + 5}, {most + "1", acre.ErrLong, 0}, {strings.Repeat("0/1 4/1 0 2;", 16666), acre.ErrCert, 16666 * 12}, {strings.Repeat("0/1 4/1 0 2;", 16665) + "0/1 4/1 0 2", acre.ErrCert, 48000}, {strings.Repeat("0/1 4/1 0 2;", 4000) + "0/2 4/1 0 2", acre.ErrCert, 48000}, {strings.Repeat("0/1 4/1 0 2;", 3999) + "0/1 4/2 0 2", acre.ErrCert, 3999*12 + 4}, {strings.Repeat("0/1 4/1 0 2;", 3999) + "0/1 4/1 0 2", acre.ErrWrong, 0}, {strings.Repeat("0", 1<<22), acre.ErrLong, 0},
	} {
		if e, at := acre.Check(square, "", 1, c.cert); e != c.e || at != c.at {
			t.Errorf("P7: Check of %d bytes = %d, %d, want %d, %d", len(c.cert), e, at, c.e, c.at)
		}
	}
}

// Every short text of the bytes that matter is held against the grammar.
func TestCertShortTexts(t *testing.T) {
	k := task{square, "", 1}
	const alphabet = "01-/ ;x"
	var grow func(text string, more int)
	grow = func(text string, more int) {
		holdCert(t, k, text)
		for i := 0; more > 0 && i < len(alphabet); i++ {
			grow(text+alphabet[i:i+1], more-1)
		}
	}
	grow("", 4)
	for _, start := range []string{"0/1 ", "0/1 4/1 ", "0/1 4/1 0 ", "-1/1 4/1 0 2", "0/1 4/1 0 2;"} {
		grow(start, 3)
	}
}

// Texts are broken off at each byte, and each byte is put out of joint.
func TestCertSpoiltTexts(t *testing.T) {
	k := task{hole, beside, 1}
	cert, _, _ := acre.Slow(k.a, k.b, k.op)
	for _, text := range []string{cert, "-3/2 4/1 0 10;-1/1152 12/1 0 2;11/10 1234/103 2 0"} {
		holdCert(t, k, text)
		for i := range len(text) {
			holdCert(t, k, text[:i])
			holdCert(t, k, text[:i]+text[i+1:])
			for _, b := range []byte("0129-/ ;,x\x00\xe2\xff") {
				holdCert(t, k, text[:i]+string([]byte{b})+text[i+1:])
				holdCert(t, k, text[:i]+string([]byte{b})+text[i:])
			}
		}
	}
}

// Pieces of numbers on either side of each limit.
func TestCertSomeNumbers(t *testing.T) {
	r := rand.New(rand.NewSource(11))
	k := task{square, corner, 1}
	fractions := strings.Fields("0/1 1/1 4/1 12/1 -12/1 -1/2 3/2 1/1152 13823/1152 -13823/1152 4/1 5/1 13/1 -13/1 0/2 0/0 1/0 2/4 -2/2 1/1153 13825/1152 99999/9999 14400/1200")
	edges := strings.Fields("0 2 4 6 1 3 5 7 10 24 99 18446744073709551616")
	some := func(list []string, plain int) string {
		if r.Intn(4) > 0 {
			return list[r.Intn(plain)]
		}
		return list[r.Intn(len(list))]
	}
	faulty, whole := 0, 0
	for range 20000 {
		var texts []string
		for range 1 + r.Intn(3) {
			texts = append(texts, some(fractions, 12)+" "+some(fractions, 12)+" "+some(edges, 4)+" "+some(edges, 4))
		}
		if holdCert(t, k, strings.Join(texts, ";")) {
			faulty++
		} else {
			whole++
		}
	}
	if faulty < 1000 || whole < 1000 {
		t.Errorf("too few of a kind: %d faulty, %d whole", faulty, whole)
	}
}

package acre_test

import (
	"reflect"
	"regexp"
	"strings"
	"testing"

	"acre/acre"
)

func TestReadRings(t *testing.T) {
	for _, c := range []struct {
		text string
		want [][]acre.Point
	}{
		{"0,0 1,0 0,1", field(ring(0, 0, 1, 0, 0, 1))},
		{"00,01 -0,-00 \u22120,\u221200", field(ring(0, 1, 0, 0, 0, 0))},
		{"-12,12 12,-12 09,-09", field(ring(-12, 12, 12, -12, 9, -9))},
		{"\u221212,\u22127 -1,\u22121 2,-02", field(ring(-12, -7, -1, -1, 2, -2))},
		{"1,2 3,4 5,6 7,8 9,10 11,12", field(ring(1, 2, 3, 4, 5, 6, 7, 8, 9, 10, 11, 12))},
		{"1,1 1,1 1,1;-3,4 5,-6 7,8 0,0", field(ring(1, 1, 1, 1, 1, 1), ring(-3, 4, 5, -6, 7, 8, 0, 0))},
	} {
		if got, e, at := acre.Read(c.text); !reflect.DeepEqual(got, c.want) || e != acre.OK || at != 0 {
			t.Errorf("P2: Read(%q) = %v, %d, %d, want %v", c.text, got, e, at, c.want)
		}
	}
	if got, e, at := acre.Read(""); len(got) != 0 || e != acre.OK || at != 0 {
		t.Errorf("P2: Read of the empty text = %v, %d, %d", got, e, at)
	}
}

func TestReadEveryNumber(t *testing.T) {
	for n := 0; n <= 99; n++ {
		digits := string(rune('0'+n/10)) + string(rune('0'+n%10))
		for minus, value := range map[string]int{"": n, "-": -n, "\u2212": -n} {
			text := "0,0 1," + minus + digits + " 2,2"
			want, e, at := field(ring(0, 0, 1, value, 2, 2)), acre.OK, 0
			if n > 12 {
				want, e, at = nil, acre.ErrSide, 6
			}
			if got, ge, gat := acre.Read(text); !reflect.DeepEqual(got, want) || ge != e || gat != at {
				t.Errorf("P2: Read(%q) = %v, %d, %d, want %v, %d, %d", text, got, ge, gat, want, e, at)
			}
		}
	}
}

func TestReadRefuses(t *testing.T) {
	const three, six = "0,0 1,0 0,1", "1,1 2,2 3,3 4,4 5,5 6,6"
	for _, c := range []struct {
		text string
		e    acre.Errno
		at   int
	}{
		// an error of the text is named ahead of all that breaks a limit
		{"13,0 1", acre.ErrText, 6}, {"0,0;", acre.ErrText, 4}, {six + " 7,7 x", acre.ErrText, 28}, {three + ";" + three + ";" + three + " ", acre.ErrText, 36}, {"0,0 1,0\x00", acre.ErrText, 7},
		// only the digits 0 to 9, the two minuses and the one blank
		{"+1,1", acre.ErrText, 0}, {"\u0661,1", acre.ErrText, 0}, {"1,\u00a01", acre.ErrText, 2}, {"1\u00a0,1", acre.ErrText, 1}, {"\u20131,1", acre.ErrText, 1}, {"1.0,1", acre.ErrText, 1}, {"0,0\t1,0 0,1", acre.ErrText, 3}, {three + " ;" + three, acre.ErrText, 12}, {three + ";;" + three, acre.ErrText, 12}, {three + "; " + three, acre.ErrText, 12}, {" " + three, acre.ErrText, 0}, {"\uFFFD", acre.ErrText, 0}, {"\ufeff" + three, acre.ErrText, 0},
		// a U+2212 whole, broken off, and where none may be
		{"\u2212", acre.ErrText, 3}, {"1,\u2212", acre.ErrText, 5}, {"\u2212,", acre.ErrText, 3}, {"\u2212\u22121", acre.ErrText, 3}, {"-\xe2\x88\x92", acre.ErrText, 1}, {"1\u2212", acre.ErrText, 1}, {"1\xe2\x88", acre.ErrText, 1}, {"12\xe2", acre.ErrText, 2}, {"1,\xe2", acre.ErrText, 3}, {"1,\xe2\x88", acre.ErrText, 4}, {"1,\xe2\x88x", acre.ErrText, 4}, {"1,\xe2x", acre.ErrText, 3}, {"1,\xe2\x92\x88", acre.ErrText, 3}, {"1,\u2192", acre.ErrText, 3}, {"1,\u2211", acre.ErrText, 4}, {"1,\x88\x92", acre.ErrText, 2}, {"1,1 \xe2\x88", acre.ErrText, 6}, {three + ";\xe2\xe2", acre.ErrText, 13},
		// numbers, with their minus
		{"13,0 1,0 0,1", acre.ErrSide, 0}, {"-13,0 1,0 0,1", acre.ErrSide, 0}, {"0,\u221213 1,0 0,1", acre.ErrSide, 2}, {"0,0 99,0 0,1", acre.ErrSide, 4}, {three + ";0,0 1,0 0,-99", acre.ErrSide, 22}, {"0,0 1,50 60,1", acre.ErrSide, 6},
		// rings and points, just one too many or too few
		{six + " 7,7", acre.ErrMany, 24}, {six + " 7,7 8,8", acre.ErrMany, 24}, {three + ";" + six + " 7,7", acre.ErrMany, 36}, {three + ";" + three + ";" + three, acre.ErrMany, 24}, {three + ";" + three + ";" + three + ";" + three, acre.ErrMany, 24}, {"0,0", acre.ErrFew, 0}, {"0,0 1,1", acre.ErrFew, 0}, {three + ";0,0 1,1", acre.ErrFew, 12}, {"0,0 1,1;" + three, acre.ErrFew, 0}, {"0,0;0,0", acre.ErrFew, 0},
		// several at once: the first place, and there the one that is named first
		{"13,0 1,0", acre.ErrSide, 0}, {"0,13 1,0", acre.ErrFew, 0}, {three + ";0,13", acre.ErrFew, 12}, {three + ";13,0", acre.ErrSide, 12}, {three + ";" + three + ";0,0", acre.ErrMany, 24}, {three + ";" + three + ";13,0", acre.ErrSide, 24}, {three + ";" + three + ";0,13", acre.ErrMany, 24}, {six + " 7,13", acre.ErrMany, 24}, {six + " 13,7", acre.ErrSide, 24}, {six + " 7,7;0,0", acre.ErrMany, 24}, {"0,0;" + six + " 7,7", acre.ErrFew, 0}, {six + " 7,7;13,0", acre.ErrMany, 24}, {"0,0;0,0;0,0", acre.ErrFew, 0}, {"0,0 1,-13 1,1 1,1 1,1 1,1 7,7", acre.ErrSide, 6},
	} {
		if got, e, at := acre.Read(c.text); got != nil || e != c.e || at != c.at {
			t.Errorf("P2: Read(%q) = %v, %d, %d, want %d, %d", c.text, got, e, at, c.e, c.at)
		}
	}
}

func TestReadLength(t *testing.T) {
	const most = "\u221210,\u221210 \u221210,\u221210 \u221210,\u221210 \u221210,\u221210 \u221210,\u221210 \u221210,\u221210;" +
		"\u221212,\u221212 \u221211,\u221211 01,02 03,04 05,06 07,-08"
	got, e, at := acre.Read(most)
	if len(most) != 120 || len(got) != 2 || len(got[0]) != 6 || len(got[1]) != 6 || e != acre.OK || at != 0 {
		t.Errorf("P2: a text of %d bytes: %v, %d, %d", len(most), got, e, at)
	}
	for _, c := range []struct {
		text string
		e    acre.Errno
		at   int
	}{
		{strings.Repeat(" ", 120), acre.ErrText, 0}, {strings.Repeat(" ", 121), acre.ErrLong, 0}, {most + " ", acre.ErrLong, 0}, {most + "1", acre.ErrLong, 0}, {most[:117], acre.ErrText, 117}, {strings.Repeat("\u2212", 40), acre.ErrText, 3}, {strings.Repeat("\u2212", 41), acre.ErrLong, 0}, {strings.Repeat("1,1 ", 30), acre.ErrText, 120}, {strings.Repeat("1,1;", 29) + "1,1", acre.ErrFew, 0}, {strings.Repeat("x", 1<<20), acre.ErrLong, 0},
	} {
		if got, e, at := acre.Read(c.text); got != nil || e != c.e || at != c.at {
			t.Errorf("P2: Read of %d bytes = %v, %d, %d, want %d, %d", len(c.text), got, e, at, c.e, c.at)
		}
	}
}

var wholeText = regexp.MustCompile(`^((-|\x{2212})?[0-9]{1,2},(-|\x{2212})?[0-9]{1,2}( (-|\x{2212})?[0-9]{1,2},(-|\x{2212})?[0-9]{1,2})*(;(-|\x{2212})?[0-9]{1,2},(-|\x{2212})?[0-9]{1,2}( (-|\x{2212})?[0-9]{1,2},(-|\x{2212})?[0-9]{1,2})*)*)?$`)

// mayGoOn tells whether some text begins so: one of a few ends always makes
// it whole, if any does.
func mayGoOn(start string) bool {
	for _, end := range []string{"", "1", "1,1", ",1", "\x92", "\x921", "\x921,1", "\x88\x921", "\x88\x921,1"} {
		if wholeText.MatchString(start + end) {
			return true
		}
	}
	return false
}

func textFault(text string) (int, bool) {
	if wholeText.MatchString(text) {
		return 0, false
	}
	at := 0
	for at < len(text) && mayGoOn(text[:at+1]) {
		at++
	}
	return at, true
}

func checkTextFault(t *testing.T, text string) {
	t.Helper()
	got, e, at := acre.Read(text)
	want, faulty := textFault(text)
	if faulty && (got != nil || e != acre.ErrText || at != want) || !faulty && e == acre.ErrText {
		t.Errorf("P2: Read(%q) = %v, %d, %d; no text: %t, at %d", text, got, e, at, faulty, want)
	}
}

// Every short text of the bytes that matter is held against the grammar.
func TestReadShortTexts(t *testing.T) {
	alphabet := "1,;- \xe2\x88\x92x"
	var grow func(text string, more int)
	grow = func(text string, more int) {
		checkTextFault(t, text)
		if more == 0 {
			return
		}
		for i := range len(alphabet) {
			grow(text+alphabet[i:i+1], more-1)
		}
	}
	grow("", 5)
}

// A long text is broken off at each byte, and each byte is put out of joint.
func TestReadSpoiltTexts(t *testing.T) {
	t.Parallel()
	for _, text := range []string{
		"-12,12 \u22123,04 5,\u22126 00,-0;1,1 \u221210,\u221211 1,1 2,-2 7,7",
		"\u22121,\u22122 3,4 05,06;1,1 1,1 1,1",
	} {
		for i := range len(text) {
			checkTextFault(t, text[:i])
			for b := range 256 {
				checkTextFault(t, text[:i]+string([]byte{byte(b)})+text[i+1:])
				checkTextFault(t, text[:i]+string([]byte{byte(b)})+text[i:])
			}
			checkTextFault(t, text[:i]+text[i+1:])
		}
	}
}

package acre_test

import (
	"math/rand"
	"reflect"
	"slices"
	"testing"

	"acre/acre"
)

func TestErrnos(t *testing.T) {
	for i, e := range []acre.Errno{acre.OK, acre.ErrLong, acre.ErrText, acre.ErrMany, acre.ErrFew, acre.ErrSide, acre.ErrArg, acre.ErrCert, acre.ErrWrong} {
		if int(e) != i {
			t.Errorf("error %d has the number %d", i, e)
		}
	}
}

func TestListsAreLeftAlone(t *testing.T) {
	r := rand.New(rand.NewSource(1))
	lists := noFields()
	for range 200 {
		lists = append(lists, someField(r, 3))
	}
	for i, f := range lists {
		before := copyOf(f)
		acre.Write(f)
		acre.Where(f, frac(1, 2), frac(1, 3))
		after := copyOf(f)
		if !reflect.DeepEqual(before, after) {
			t.Errorf("P1: list %d is changed", i)
		}
	}
}

// What is written into one answer is seen neither in another answer, nor in
// another ring of its own, not even past a ring's end.
func TestAnswersAreNewMemory(t *testing.T) {
	const text = "0,0 4,0 4,4;1,1 2,1 2,2 1,2"
	first, _, _ := acre.Read(text)
	second, _, _ := acre.Read(text)
	want := copyOf(second)
	for i := range first {
		grown := append(first[i], point(9, 9))
		grown = grown[:cap(grown)]
		for j := range grown {
			grown[j] = point(9+i, 9)
		}
		for _, other := range first[i+1:] {
			if other[0] == point(9+i, 9) {
				t.Errorf("P1: ring %d of an answer shares memory with one behind it", i)
			}
		}
	}
	_ = append(first, nil)
	if third, _, _ := acre.Read(text); !reflect.DeepEqual(second, want) || !reflect.DeepEqual(third, want) {
		t.Errorf("P1: after a change of one answer others are %v and %v, want %v", second, third, want)
	}
}

// What is written into pieces that were answered, and past their end, is seen
// in no other answer, whether they were offered or made.
func TestPiecesAreNewMemory(t *testing.T) {
	for _, offer := range []string{"2/1 4/1 0 2;0/1 2/1 0 2", "x", ""} {
		first, _, _ := acre.Combine(square, "", 1, offer)
		second, _, _ := acre.Combine(square, "", 1, offer)
		want := slices.Clone(second)
		if len(want) == 0 {
			t.Fatalf("P8: Combine with %q offered answers no pieces", offer)
		}
		clear(first[:cap(first)])
		if third, _, _ := acre.Combine(square, "", 1, offer); !slices.Equal(second, want) || !slices.Equal(third, want) {
			t.Errorf("P1: after a change of one answer others are %v and %v, want %v", second, third, want)
		}
	}
}

// Any bytes and any numbers: the calls end, do not panic, and answer the same
// again.
func TestAnythingGoes(t *testing.T) {
	r := rand.New(rand.NewSource(2))
	const bytes = "0123456789,,,,,  ;--\xe2\x88\x92\xff\x00x"
	ints := []int{0, 1, -1, 2, 12, -12, 13, -13, 1152, 1153, 1 << 31, -1 << 31, int(^uint(0) >> 1), -int(^uint(0)>>1) - 1, 1 << 62, -1 << 62}
	some := func() int { return ints[r.Intn(len(ints))] }
	for range 20000 {
		text := make([]byte, r.Intn(130))
		for i := range text {
			text[i] = bytes[r.Intn(len(bytes))]
		}
		f, e, at := acre.Read(string(text))
		g, d, bt := acre.Read(string(text))
		if !reflect.DeepEqual(f, g) || e != d || at != bt || e != acre.OK && f != nil || at < 0 || at > len(text) {
			t.Fatalf("P1: Read(%q) = %v, %d, %d, then %v, %d, %d", text, f, e, at, g, d, bt)
		}
		x, y := frac(some(), some()), frac(some(), some())
		wide := field(ring(some(), some(), some(), some(), some(), some()))
		n, e := acre.Where(wide, x, y)
		m, d := acre.Where(wide, x, y)
		if n != m || e != d || e != acre.OK && n != 0 {
			t.Fatalf("P1: Where(%v, %v, %v) = %d, %d, then %d, %d", wide, x, y, n, e, m, d)
		}
		s, e := acre.Write(wide)
		u, d := acre.Write(wide)
		if s != u || e != d || e != acre.OK && s != "" {
			t.Fatalf("P1: Write(%v) = %q, %d, then %q, %d", wide, s, e, u, d)
		}
		one, two := edge(some(), some(), some(), some()), edge(some(), some(), some(), some())
		n, x, y = acre.Meet(one, two)
		m, z, w := acre.Meet(one, two)
		if n != m || x != z || y != w || n != 1 && (x != acre.Frac{} || y != acre.Frac{}) {
			t.Fatalf("P1: Meet(%v, %v) = %d, %v, %v, then %d, %v, %v", one, two, n, x, y, m, z, w)
		}
	}
}

// someBytes are bytes that texts are made of, and others.
func someBytes(r *rand.Rand, bytes string, most int) string {
	text := make([]byte, r.Intn(most+1))
	for i := range text {
		text[i] = bytes[r.Intn(len(bytes))]
	}
	return string(text)
}

// Any texts and any op: the calls on two texts end, do not panic, and answer
// the same again.
func TestAnythingGoesPutTogether(t *testing.T) {
	t.Parallel()
	r := rand.New(rand.NewSource(3))
	ops := []int{0, 1, 2, 3, 0, 1, 2, 3, 4, -1, 1 << 40, -1 << 40, int(^uint(0) >> 1), -int(^uint(0)>>1) - 1}
	text := func() string {
		if r.Intn(5) == 0 {
			return someBytes(r, "0123456789,,,,,  ;--\xe2\x88\x92\xff\x00x", 130)
		}
		return someText(r, 12, 2, 6)
	}
	for range 3000 {
		a, b, op := text(), text(), ops[r.Intn(len(ops))]
		s, e, at := acre.Slow(a, b, op)
		u, d, bt := acre.Slow(a, b, op)
		if s != u || e != d || at != bt || e != acre.OK && s != "" || e == acre.OK && at != 0 {
			t.Fatalf("P1: Slow(%q, %q, %d) = %q, %d, %d, then %q, %d, %d", a, b, op, s, e, at, u, d, bt)
		}
		g, e, at := acre.Guess(a, b, op)
		h, d, bt := acre.Guess(a, b, op)
		if g != h || e != d || at != bt || e != acre.OK && g != "" || e == acre.OK && at != 0 {
			t.Fatalf("P1: Guess(%q, %q, %d) = %q, %d, %d, then %q, %d, %d", a, b, op, g, e, at, h, d, bt)
		}
		for _, cert := range []string{s, someBytes(r, "0123456789////    ;;--x\xff", 60), s + someBytes(r, "01/ ;-", 9), s[:r.Intn(len(s)+1)]} {
			e, at := acre.Check(a, b, op, cert)
			d, bt := acre.Check(a, b, op, cert)
			if e != d || at != bt || (e == acre.OK || e == acre.ErrWrong || e == acre.ErrArg) && at != 0 {
				t.Fatalf("P1: Check(%q, %q, %d, %q) = %d, %d, then %d, %d", a, b, op, cert, e, at, d, bt)
			}
			l, e, at := acre.Combine(a, b, op, cert)
			m, d, bt := acre.Combine(a, b, op, cert)
			if !slices.Equal(l, m) || e != d || at != bt || e != acre.OK && l != nil || e == acre.OK && at != 0 {
				t.Fatalf("P1: Combine(%q, %q, %d, %q) = %v, %d, %d, then %v, %d, %d", a, b, op, cert, l, e, at, m, d, bt)
			}
		}
	}
}

// Much to do, and still an end: as many pieces as there may be, with as many
// x's where they begin, over fields of as many edges.
func TestCheckEnds(t *testing.T) {
	k := task{great[0], great[3], 3}
	cert, _, _ := acre.Slow(k.a, k.b, k.op)
	pieces, lines := parse(cert), linesOf(k)
	for n := 0; len(pieces) < 4000; n++ {
		line := lines[n%len(lines)]
		pieces = append(pieces, laid{rat(n-2000, 1+n%1152), rat(12, 1), line, line})
		if last := pieces[len(pieces)-1].from; last.Cmp(rat(-12, 1)) < 0 || last.Cmp(rat(12, 1)) >= 0 {
			pieces = pieces[:len(pieces)-1]
		}
	}
	if e, at := acre.Check(k.a, k.b, k.op, write(pieces)); e != acre.OK || at != 0 {
		t.Errorf("P1, P7: Check of Slow's pieces, and many with nothing in them = %d, %d", e, at)
	}
}

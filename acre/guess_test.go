package acre_test

import (
	"math/rand"
	"testing"

	"acre/acre"
)

// guesses counts how many guesses there were, and how many of them are right.
type guesses struct{ all, right int }

// take holds a guess against what the document says of it: it is short enough
// for Check to look it over, right or not.
func (n *guesses) take(t *testing.T, k task) string {
	t.Helper()
	text, e, at := acre.Guess(k.a, k.b, k.op)
	if e != acre.OK || at != 0 || len(text) > 200000 {
		t.Fatalf("P6: Guess(%q, %q, %d) = %.100q of %d bytes, %d, %d", k.a, k.b, k.op, text, len(text), e, at)
	}
	n.all++
	switch e, at := acre.Check(k.a, k.b, k.op, text); e {
	case acre.OK:
		n.right++
	case acre.ErrCert, acre.ErrWrong:
		t.Logf("a wrong guess: Guess(%q, %q, %d) = %q: %d, %d", k.a, k.b, k.op, text, e, at)
	default:
		t.Errorf("P6: Check(%q, %q, %d, %.100q) = %d, %d", k.a, k.b, k.op, text, e, at)
	}
	return text
}

// areGood fails where the engine is of little use. The document lets it be
// wrong, but not so often that it need not be there.
func (n guesses) areGood(t *testing.T) {
	t.Helper()
	if 10*n.right < 9*n.all {
		t.Errorf("the section 'Ways': of %d guesses %d are right", n.all, n.right)
	}
}

func TestGuessAllKinds(t *testing.T) {
	var n guesses
	for _, a := range kinds {
		for _, b := range kinds {
			for op := range 4 {
				n.take(t, task{a, b, op})
			}
		}
	}
	n.areGood(t)
}

func TestGuessGreatFields(t *testing.T) {
	var n guesses
	for _, a := range great {
		for _, b := range great {
			for op := range 4 {
				n.take(t, task{a, b, op})
			}
		}
	}
	n.areGood(t)
}

// The smaller the side, the more edges touch, lie on one another, are upright
// or points alone.
func TestGuessSomeFields(t *testing.T) {
	t.Parallel()
	r := rand.New(rand.NewSource(12))
	var n guesses
	for i := range 4000 {
		side := []int{1, 2, 3, 5, 12}[r.Intn(5)]
		n.take(t, task{someText(r, side, 2, 6), someText(r, side, 2, 6), i % 4})
	}
	n.areGood(t)
}

// What Check takes of the guesses is right by the document's words too.
func TestGuessIsRight(t *testing.T) {
	var n guesses
	for i, a := range kinds {
		for op := range 4 {
			k := task{a, kinds[(i*5+op)%len(kinds)], op}
			before := n.right
			text := n.take(t, k)
			if n.right > before && !isRight(k, parse(text)) {
				t.Errorf("P7: Check takes Guess(%q, %q, %d) = %q, which is not right", k.a, k.b, k.op, text)
			}
		}
	}
}

func TestGuessAnswers(t *testing.T) {
	for _, c := range []struct {
		task
		want string
	}{
		{task{"", "", 1}, ""},
		{task{square, "", 0}, ""},
		{task{square, "", 1}, "0/1 4/1 0 2"},
		{task{"", square, 3}, "0/1 4/1 0 2"},
		{task{"", square, 2}, ""},
		{task{"1,1 1,1 1,1", "2,0 2,4 2,7", 1}, ""},
		{task{square, beside, 2}, "0/1 2/1 0 2"},
		{task{bow, "", 1}, "0/1 2/1 0 2;2/1 4/1 2 0"},
		{task{"0,0 3,1 3,0 0,2", "", 1}, "0/1 2/1 0 2;2/1 3/1 2 0"},
		{task{"-12,-12 12,11 12,-12 -12,11", "", 1}, "-12/1 0/1 0 2;0/1 12/1 2 0"},
		{task{"-12,-12 12,11 12,-12 -11,12", "", 1}, "-12/1 -11/1 0 3;-11/1 564/1105 0 2;564/1105 12/1 2 0"},
	} {
		var n guesses
		if got := n.take(t, c.task); got != c.want {
			t.Errorf("the section 'Ways': Guess(%q, %q, %d) = %q, want %q", c.a, c.b, c.op, got, c.want)
		}
	}
}

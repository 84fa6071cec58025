package acre_test

import (
	"math/rand"
	"reflect"
	"strings"
	"testing"

	"acre/acre"
)

func TestWrite(t *testing.T) {
	for _, c := range []struct {
		field [][]acre.Point
		want  string
	}{
		{nil, ""},
		{field(), ""},
		{field(ring(0, 0, 1, 0, 0, 1)), "0,0 1,0 0,1"},
		{field(ring(-12, 12, -1, 10, 9, -9)), "-12,12 -1,10 9,-9"},
		{field(ring(1, 1, 1, 1, 1, 1), ring(1, 2, 3, 4, 5, 6, 7, 8, 9, 10, 11, 12)), "1,1 1,1 1,1;1,2 3,4 5,6 7,8 9,10 11,12"},
		{field(ring(-12, -12, -12, -12, -12, -12, -12, -12, -12, -12, -12, -12), ring(-12, -12, -12, -12, -12, -12, -12, -12, -12, -12, -12, -12)), strings.Repeat("-12,-12 ", 5) + "-12,-12;" + strings.Repeat("-12,-12 ", 5) + "-12,-12"},
	} {
		if got, e := acre.Write(c.field); got != c.want || e != acre.OK {
			t.Errorf("P3: Write(%v) = %q, %d, want %q", c.field, got, e, c.want)
		}
	}
}

func TestWriteRefuses(t *testing.T) {
	for i, f := range noFields() {
		if got, e := acre.Write(f); got != "" || e != acre.ErrArg {
			t.Errorf("P3: Write of list %d that is no field = %q, %d", i, got, e)
		}
	}
}

func TestWriteThenRead(t *testing.T) {
	r := rand.New(rand.NewSource(3))
	for range 2000 {
		f := someField(r, 12)
		text, e := acre.Write(f)
		got, re, at := acre.Read(text)
		if e != acre.OK || re != acre.OK || at != 0 || len(got) != len(f) || len(f) > 0 && !reflect.DeepEqual(got, f) {
			t.Fatalf("P3: Write(%v) = %q, %d; Read of that = %v, %d, %d", f, text, e, got, re, at)
		}
	}
}

// What was written with zeros ahead or other minuses is written plainly.
func TestWritePlainly(t *testing.T) {
	f, _, _ := acre.Read("\u221201,-0 \u221200,09 00,\u221212")
	if got, e := acre.Write(f); got != "-1,0 0,9 0,-12" || e != acre.OK {
		t.Errorf("P3: Write(%v) = %q, %d", f, got, e)
	}
}

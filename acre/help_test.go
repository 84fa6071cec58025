package acre_test

import (
	"math/big"
	"math/rand"

	"acre/acre"
)

func point(x, y int) acre.Point { return acre.Point{X: x, Y: y} }

func frac(n, d int) acre.Frac { return acre.Frac{N: n, D: d} }

func edge(a, b, c, d int) acre.Edge { return acre.Edge{point(a, b), point(c, d)} }

// ring takes X and Y by turns.
func ring(numbers ...int) []acre.Point {
	var points []acre.Point
	for i := 0; i+1 < len(numbers); i += 2 {
		points = append(points, point(numbers[i], numbers[i+1]))
	}
	return points
}

func field(rings ...[]acre.Point) [][]acre.Point { return rings }

func copyOf(field [][]acre.Point) [][]acre.Point {
	var rings [][]acre.Point
	for _, r := range field {
		rings = append(rings, append([]acre.Point{}, r...))
	}
	return rings
}

// someField is a field with points from -side to side; a small side makes
// touching and repeated edges common.
func someField(r *rand.Rand, side int) [][]acre.Point {
	var rings [][]acre.Point
	for range r.Intn(3) {
		points := make([]acre.Point, 3+r.Intn(4))
		for i := range points {
			points[i] = point(r.Intn(2*side+1)-side, r.Intn(2*side+1)-side)
		}
		rings = append(rings, points)
	}
	return rings
}

// noFields are lists that are just no fields.
func noFields() [][][]acre.Point {
	const greatest, least = int(^uint(0) >> 1), -int(^uint(0)>>1) - 1
	three := ring(0, 0, 1, 0, 0, 1)
	lists := [][][]acre.Point{
		field(nil),
		field([]acre.Point{}),
		field(ring(0, 0)),
		field(ring(0, 0, 1, 1)),
		field(make([]acre.Point, 7)),
		field(make([]acre.Point, 100000)),
		field(three, three, three),
		field(three, nil),
		field(nil, three),
		field(three, ring(0, 0, 1, 1)),
		field(three, make([]acre.Point, 7)),
		make([][]acre.Point, 3),
		make([][]acre.Point, 100000),
	}
	for _, n := range []int{13, -13, 100, -100, greatest, least, greatest - 12, least + 12} {
		lists = append(lists,
			field(ring(n, 0, 1, 0, 0, 1)), field(ring(0, n, 1, 0, 0, 1)),
			field(ring(0, 0, 1, 0, n, 1)), field(ring(0, 0, 1, 0, 0, n)),
			field(three, ring(0, 0, 1, 0, 0, n)))
	}
	return lists
}

func rat(n, d int) *big.Rat { return big.NewRat(int64(n), int64(d)) }

func add(a, b *big.Rat) *big.Rat { return new(big.Rat).Add(a, b) }

func sub(a, b *big.Rat) *big.Rat { return new(big.Rat).Sub(a, b) }

func mul(a, b *big.Rat) *big.Rat { return new(big.Rat).Mul(a, b) }

func quo(a, b *big.Rat) *big.Rat { return new(big.Rat).Quo(a, b) }

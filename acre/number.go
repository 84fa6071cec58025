package acre

// whole is any kind of number that divides with a remainder.
type whole interface {
	~int | ~int32 | ~int64
}

// number is any kind of number that has an order and a zero.
type number interface {
	whole | ~float64
}

// sign is -1, 0 or 1.
func sign[T number](n T) int {
	switch {
	case n < 0:
		return -1
	case n > 0:
		return 1
	}
	return 0
}

// gcd is never below 0, so that dividing by it keeps the signs.
func gcd[T whole](a, b T) T {
	for b != 0 {
		a, b = b, a%b
	}
	if a < 0 {
		return -a
	}
	return a
}

// least takes the first number on its own, so that there always is one.
func least[T number](first T, others ...T) T {
	for _, n := range others {
		if n < first {
			first = n
		}
	}
	return first
}

// lowest is n/d as a fraction; d is not 0.
func lowest(n, d int) Frac {
	common := gcd(n, d) * sign(d)
	return Frac{n / common, d / common}
}

// compare is the sign of f - n, reckoned without dividing.
func compare(f Frac, n int) int {
	return sign(f.N - n*f.D)
}

// order is the sign of f - g. Heights in a slab may be so long that an int of
// 32 bits would not hold the products.
func order(f, g Frac) int {
	return sign(int64(f.N)*int64(g.D) - int64(g.N)*int64(f.D))
}

// mediant is between the two, and has a smaller denominator than the middle.
func mediant(f, g Frac) Frac {
	return lowest(f.N+g.N, f.D+g.D)
}

// between tells whether f lies from a to b or from b to a: then it is not
// beyond both on the same side.
func between(f Frac, a, b int) bool {
	return compare(f, a)*compare(f, b) <= 0
}

// isWithin tells whether f is a fraction from -side to side whose denominator
// keeps its limit. D is looked at first, since only a small one can be
// multiplied safely.
func isWithin(f Frac, side int) bool {
	if f.D < 1 || f.D > maxDen {
		return false
	}
	reach := side * f.D
	return f.N >= -reach && f.N <= reach && gcd(f.N, f.D) == 1
}

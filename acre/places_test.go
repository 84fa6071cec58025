package acre_test

import (
	"math/big"
	"sort"
	"strconv"
	"strings"

	"acre/acre"
)

// task is two fields and an op, as the calls take them.
type task struct {
	a, b string
	op   int
}

func (k task) edges() []acre.Edge {
	return append(edgesOf(k.a), edgesOf(k.b)...)
}

// edgesOf lists a field's edges as the document numbers them.
func edgesOf(text string) []acre.Edge {
	field, e, _ := acre.Read(text)
	if e != acre.OK {
		panic(text)
	}
	var edges []acre.Edge
	for _, r := range field {
		for i := range r {
			edges = append(edges, acre.Edge{r[i], r[(i+1)%len(r)]})
		}
	}
	return edges
}

// laid is a piece of a certificate, with its edges' numbers.
type laid struct {
	from, to  *big.Rat
	low, high int
}

func parse(cert string) []laid {
	var pieces []laid
	for _, text := range strings.Split(cert, ";") {
		if cert == "" {
			break
		}
		parts := strings.Split(text, " ")
		from, _ := new(big.Rat).SetString(parts[0])
		to, _ := new(big.Rat).SetString(parts[1])
		low, _ := strconv.Atoi(parts[2])
		high, _ := strconv.Atoi(parts[3])
		pieces = append(pieces, laid{from, to, low, high})
	}
	return pieces
}

func write(pieces []laid) string {
	var texts []string
	for _, p := range pieces {
		texts = append(texts, p.from.String()+" "+p.to.String()+" "+strconv.Itoa(p.low)+" "+strconv.Itoa(p.high))
	}
	return strings.Join(texts, ";")
}

func upright(e acre.Edge) bool { return e[0].X == e[1].X }

// heightAt is where the line through the edge is at x.
func heightAt(e acre.Edge, x *big.Rat) *big.Rat {
	slope := rat(e[1].Y-e[0].Y, e[1].X-e[0].X)
	return add(rat(e[0].Y, 1), mul(slope, sub(x, rat(e[0].X, 1))))
}

// linesCross is the x where the lines of two edges cross, or nil.
func linesCross(e, f acre.Edge) *big.Rat {
	if upright(e) || upright(f) {
		return nil
	}
	se, sf := rat(e[1].Y-e[0].Y, e[1].X-e[0].X), rat(f[1].Y-f[0].Y, f[1].X-f[0].X)
	if se.Cmp(sf) == 0 {
		return nil
	}
	zero := rat(0, 1)
	return quo(sub(heightAt(f, zero), heightAt(e, zero)), sub(se, sf))
}

// withMiddles sorts the numbers, and puts one between each two and one beyond
// either end.
func withMiddles(numbers []*big.Rat) []*big.Rat {
	sort.Slice(numbers, func(i, j int) bool { return numbers[i].Cmp(numbers[j]) < 0 })
	var all []*big.Rat
	for i, n := range numbers {
		if i == 0 {
			all = append(all, sub(n, rat(1, 1)))
		} else if n.Cmp(numbers[i-1]) > 0 {
			all = append(all, quo(add(n, numbers[i-1]), rat(2, 1)))
		}
		if i == 0 || n.Cmp(numbers[i-1]) > 0 {
			all = append(all, n)
		}
	}
	if len(numbers) > 0 {
		all = append(all, add(numbers[len(numbers)-1], rat(1, 1)))
	}
	return all
}

// isInEdges tells whether the place is on one of the edges, and else whether
// it is in what they bound. It counts those below the place, which for a ray
// through points is the same as for one a little to the right.
func isInEdges(edges []acre.Edge, heights []*big.Rat, x, y *big.Rat) (on, in bool) {
	for i, e := range edges {
		left, right := rat(min(e[0].X, e[1].X), 1), rat(max(e[0].X, e[1].X), 1)
		if x.Cmp(left) < 0 || x.Cmp(right) > 0 {
			continue
		}
		if upright(e) {
			on = on || y.Cmp(rat(min(e[0].Y, e[1].Y), 1)) >= 0 && y.Cmp(rat(max(e[0].Y, e[1].Y), 1)) <= 0
			continue
		}
		on = on || y.Cmp(heights[i]) == 0
		if x.Cmp(right) < 0 && y.Cmp(heights[i]) > 0 {
			in = !in
		}
	}
	return on, in
}

func keeps(op int, first, second bool) bool {
	return []bool{first && second, first || second, first && !second, first != second}[op]
}

// isRight does what the document's words say: it goes to places of every kind
// that there is, and counts the pieces that each is in.
func isRight(k task, pieces []laid) bool {
	edges, split := k.edges(), len(edgesOf(k.a))
	var xs []*big.Rat
	for i, e := range edges {
		xs = append(xs, rat(e[0].X, 1))
		for _, f := range edges[:i] {
			if x := linesCross(e, f); x != nil && x.Cmp(rat(13, 1)) < 0 && x.Cmp(rat(-13, 1)) > 0 {
				xs = append(xs, x)
			}
		}
	}
	for _, p := range pieces {
		xs = append(xs, p.from, p.to)
	}
	for _, x := range withMiddles(xs) {
		heights := make([]*big.Rat, len(edges))
		var ys []*big.Rat
		for i, e := range edges {
			if upright(e) {
				ys = append(ys, rat(e[0].Y, 1))
				continue
			}
			heights[i] = heightAt(e, x)
			ys = append(ys, heights[i])
		}
		for _, y := range withMiddles(ys) {
			onFirst, inFirst := isInEdges(edges[:split], heights[:split], x, y)
			onSecond, inSecond := isInEdges(edges[split:], heights[split:], x, y)
			if onFirst || onSecond {
				continue
			}
			if times := timesIn(pieces, heights, x, y); keeps(k.op, inFirst, inSecond) != (times == 1) || times > 1 {
				return false
			}
		}
	}
	return true
}

// timesIn counts the pieces that the place is in.
func timesIn(pieces []laid, heights []*big.Rat, x, y *big.Rat) int {
	times := 0
	for _, p := range pieces {
		if x.Cmp(p.from) >= 0 && x.Cmp(p.to) < 0 && y.Cmp(heights[p.low]) > 0 && y.Cmp(heights[p.high]) < 0 {
			times++
		}
	}
	return times
}

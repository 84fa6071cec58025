package acre

import (
	"strconv"
	"strings"
)

const (
	maxCert   = 200000
	maxPieces = 4000

	maxOver  = 5 // digits of a fraction's N
	maxUnder = 4 // and of its D

	// manyEdges is more than there ever are: the number of an edge may have
	// any number of digits, and must not wrap round.
	manyEdges = 1 << 20
)

// misfit is the place where a certificate goes wrong. It is thrown, since
// nothing behind it is of use.
type misfit int

// draft is a piece of a certificate as it is written, and where its parts are.
type draft struct {
	from, to  Frac
	low, high int

	fromAt, toAt, lowAt, highAt int
}

// readCert answers the pieces of a certificate, or where it is none.
func readCert(text string, edges []Edge) (pieces []Piece, at int, ok bool) {
	defer func() {
		switch thrown := recover().(type) {
		case nil:
		case misfit:
			pieces, at, ok = nil, int(thrown), false
		default:
			panic(thrown)
		}
	}()
	for i, d := range readDrafts(text) {
		need(i < maxPieces, d.fromAt)
		pieces = append(pieces, d.piece(edges))
	}
	return pieces, 0, true
}

func need(ok bool, at int) {
	if !ok {
		panic(misfit(at))
	}
}

// piece holds From against To only where both are fit: else the one that is
// not is told, which may come further on than the piece's first byte.
func (d draft) piece(edges []Edge) Piece {
	isLine := func(n int) bool { return n < len(edges) && !isUpright(edges[n]) }
	need(isWithin(d.from, maxSide), d.fromAt)
	need(isWithin(d.to, maxSide), d.toAt)
	need(order(d.from, d.to) < 0, d.fromAt)
	need(isLine(d.low), d.lowAt)
	need(isLine(d.high), d.highAt)
	return Piece{d.from, d.to, edges[d.low], edges[d.high]}
}

// readDrafts goes through the whole text, so that one that is wrong further
// on is refused for that first.
func readDrafts(text string) []draft {
	if text == "" {
		return nil
	}
	c := cursor{text: text}
	drafts := []draft{c.draft()}
	for c.at < len(text) {
		c.must(';')
		drafts = append(drafts, c.draft())
	}
	return drafts
}

// cursor is how far a certificate has been read.
type cursor struct {
	text string
	at   int
}

func (c *cursor) draft() draft {
	var d draft
	d.fromAt = c.at
	d.from = c.fraction()
	c.must(' ')
	d.toAt = c.at
	d.to = c.fraction()
	c.must(' ')
	d.lowAt = c.at
	d.low = c.number(len(c.text))
	c.must(' ')
	d.highAt = c.at
	d.high = c.number(len(c.text))
	return d
}

func (c *cursor) fraction() Frac {
	factor := 1
	if c.sees('-') {
		c.at++
		factor = -1
		need(!c.sees('0'), c.at)
	}
	n := c.number(maxOver)
	c.must('/')
	return Frac{factor * n, c.number(maxUnder)}
}

// number takes as many digits as there may be; behind a 0 there is no other.
func (c *cursor) number(most int) int {
	n, start := 0, c.at
	for c.at < len(c.text) && c.at < start+most && isDigit(c.text[c.at]) {
		n = least(manyEdges, 10*n+int(c.text[c.at]-'0'))
		c.at++
		if n == 0 {
			break
		}
	}
	need(c.at > start, c.at)
	return n
}

func isDigit(b byte) bool { return b >= '0' && b <= '9' }

func (c *cursor) sees(b byte) bool {
	return c.at < len(c.text) && c.text[c.at] == b
}

func (c *cursor) must(b byte) {
	need(c.sees(b), c.at)
	c.at++
}

// writeCert writes pieces whose edges are among those.
func writeCert(pieces []Piece, edges []Edge) string {
	numbers := map[Edge]int{}
	for i, e := range edges {
		numbers[e] = i
	}
	var texts []string
	for _, p := range pieces {
		texts = append(texts, strings.Join([]string{
			writeFrac(p.From), writeFrac(p.To),
			strconv.Itoa(numbers[p.Low]), strconv.Itoa(numbers[p.High]),
		}, " "))
	}
	return strings.Join(texts, ";")
}

func writeFrac(f Frac) string {
	return strconv.Itoa(f.N) + "/" + strconv.Itoa(f.D)
}

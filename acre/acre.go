// Package acre: fields of the plane, put together by an engine that nobody trusts, and a checker: see DOC.md.
package acre

// Errno is what a call answers: OK or the reason for a refusal.
type Errno int

const (
	OK       Errno = 0
	ErrLong  Errno = 1 // above a bound
	ErrText  Errno = 2 // no field's text
	ErrMany  Errno = 3 // too many rings or points
	ErrFew   Errno = 4 // too few points
	ErrSide  Errno = 5 // too far out
	ErrArg   Errno = 6 // what may not be handed in
	ErrCert  Errno = 7 // no certificate
	ErrWrong Errno = 8 // a certificate that is not right
)

// Point is a point of the grid.
type Point struct{ X, Y int }

// Edge is the two ends of an edge.
type Edge [2]Point

// Frac is N/D in lowest terms, D above 0.
type Frac struct{ N, D int }

// Piece is what lies from From to To, above Low and below High.
type Piece struct {
	From, To  Frac
	Low, High Edge
}

package acre

import (
	"strconv"
	"strings"
)

// Write writes a field (P3).
func Write(field [][]Point) (string, Errno) {
	if !isField(field) {
		return "", ErrArg
	}
	var rings []string
	for _, ring := range field {
		rings = append(rings, writeRing(ring))
	}
	return strings.Join(rings, ";"), OK
}

func writeRing(ring []Point) string {
	var points []string
	for _, p := range ring {
		points = append(points, strconv.Itoa(p.X)+","+strconv.Itoa(p.Y))
	}
	return strings.Join(points, " ")
}

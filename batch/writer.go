package batch

import (
	"math"
	"strconv"
	"strings"

	"thicket/floats"
)

// areAlike tells whether vectors have as many numbers as the first one, and as a vector may have.
func areAlike(l [][]float64) bool {
	for _, x := range l {
		if len(x) != len(l[0]) || !isMany(len(x)) {
			return false
		}
	}
	return true
}

// writeLine writes words with by between.
func writeLine(b *strings.Builder, by string, words ...string) {
	for i, word := range words {
		if i > 0 {
			b.WriteString(by)
		}
		b.WriteString(word)
	}
	b.WriteByte('\n')
}

// textsOf are a vector's numbers as texts.
func textsOf(x []float64) []string {
	var l []string
	for _, v := range x {
		l = append(l, floats.Shortest(v))
	}
	return l
}

// toldOf are a label, and those of a vector's numbers that Sparse would not know by itself, each with its index.
func toldOf(label float64, x []float64, lost bool) []string {
	l := []string{floats.Shortest(label)}
	for i, v := range x {
		if isTold(v, lost) {
			l = append(l, strconv.Itoa(i+1)+":"+floats.Shortest(v))
		}
	}
	return l
}

// isTold goes by the bits, so that -0 is told.
func isTold(v float64, lost bool) bool {
	if lost {
		return !math.IsNaN(v)
	}
	return math.Float64bits(v) != 0
}

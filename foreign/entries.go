package foreign

import (
	"math"
	"strconv"
	"strings"

	"thicket/api"
	"thicket/fixed"
	"thicket/scan"
)

// mostDigits is how many digits a count has at most.
const mostDigits = 10

// anyCount is a limit below which every count lies.
const anyCount = math.MaxUint64

// entry is what stands behind a key, and the number of its row.
type entry struct {
	row  int
	text string
}

// isThere tells whether the key has a row: their numbers begin with 1.
func (e entry) isThere() bool { return e.row > 0 }

// asks gives up at the key's row, if something does not hold.
func (e entry) asks(holds bool) {
	if !holds {
		failAt(e.row)
	}
}

// words are the value's words; a tab stands between none.
func (e entry) words() []string {
	return strings.FieldsFunc(e.text, func(c rune) bool { return c == ' ' })
}

// some are the value's words, which have to be so many.
func (e entry) some(many uint64) []string {
	words := e.words()
	e.asks(uint64(len(words)) == many)
	return words
}

// count is the one word's number.
func (e entry) count() uint64 { return e.counts(1, anyCount)[0] }

// counts are so many words' numbers, each below a limit.
func (e entry) counts(many, below uint64) []uint64 {
	words := e.some(many)
	l := make([]uint64, 0, len(words))
	for _, word := range words {
		n, ok := digits(word)
		e.asks(ok && n < below)
		l = append(l, n)
	}
	return l
}

// digits is the number that a word says; false, if it is no count.
func digits(word string) (uint64, bool) {
	if len(word) > mostDigits || strings.HasPrefix(word, "0") && word != "0" {
		return 0, false
	}
	n, err := strconv.ParseUint(word, 10, 64)
	return n, err == nil
}

// names are all of the value's words, none of them twice.
func (e entry) names() []string {
	ahead := map[string]struct{}{}
	var l []string
	for _, word := range e.words() {
		_, twice := ahead[word]
		e.asks(scan.Name(word) && !twice)
		ahead[word] = struct{}{}
		l = append(l, word)
	}
	e.asks(len(l) > 0)
	return l
}

// values are so many fixed numbers.
func (e entry) values(many uint64) []int64 {
	var l []int64
	for _, word := range e.some(many) {
		v, why, _ := fixed.Rounded(word)
		if why != api.OK {
			panic(fault{why, e.row})
		}
		l = append(l, v)
	}
	return l
}

// children are the numbers of the nodes that the words say, in a tree whose inner nodes come first, its leaves behind them.
func (e entry) children(leaves uint64) []int {
	inner := leaves - 1
	var l []int
	for _, word := range e.some(inner) {
		word, isLeaf := strings.CutPrefix(word, "-")
		c, ok := digits(word)
		if isLeaf {
			e.asks(ok && c >= 1 && c <= leaves)
			c += inner - 1
		} else {
			e.asks(ok && c < inner)
		}
		l = append(l, int(c))
	}
	return l
}

package text

import (
	"math"
	"slices"

	"thicket/api"
	"thicket/fixed"
	"thicket/floats"
	"thicket/scan"
)

// The rules of a line, by their numbers.
const (
	ruleNone   = iota
	ruleWords  // it has words
	ruleFirst  // the first one is what is expected
	ruleForm   // the others are those of its form
	ruleCount  // a count is nine digits at most, without needless noughts
	ruleFixed  // a fixed number is one
	ruleNumber // a threshold is a number
	ruleName   // a name is one
	ruleRange  // a count is in its range
	ruleBase   // there are as many numbers as outputs
	ruleKnown  // a feature is new, a split's is known
	ruleRise   // categories rise
	ruleTree   // nodes are a tree
	ruleSum    // an output's room is below the limit
)

// mostDigits is how many digits a count has at most.
const mostDigits = 9

// line is what is left of a line's words while they are taken, and the least rule that is broken. As it is the least, nobody who takes words has to mind in which order rules are asked.
type line struct {
	rest []api.Word
	rule int
}

// breaks takes note of a rule that is broken.
func (l *line) breaks(rule int) {
	if l.rule == ruleNone || rule < l.rule {
		l.rule = rule
	}
}

// asks takes note of a rule, if it does not hold.
func (l *line) asks(rule int, holds bool) {
	if !holds {
		l.breaks(rule)
	}
}

// comes tells whether the next word is of one of these kinds.
func (l *line) comes(kinds ...api.WordKind) bool {
	return len(l.rest) > 0 && slices.Contains(kinds, l.rest[0].Kind)
}

// takes passes the next word, if it is this one.
func (l *line) takes(kind api.WordKind, text string) bool {
	if !l.comes(kind) || l.rest[0].Text != text {
		return false
	}
	l.rest = l.rest[1:]
	return true
}

// first takes the word that says what the line is.
func (l *line) first(text string) { l.asks(ruleFirst, l.takes(api.WordName, text)) }

// small takes a word that stands between others.
func (l *line) small(text string) { l.asks(ruleForm, l.takes(api.WordName, text)) }

// word takes a word of one of these kinds.
func (l *line) word(kinds ...api.WordKind) string {
	if !l.comes(kinds...) {
		l.breaks(ruleForm)
		return ""
	}
	text := l.rest[0].Text
	l.rest = l.rest[1:]
	return text
}

// count takes a number of digits that is neither below low nor above high.
func (l *line) count(low, high int) int {
	n, ok := digits(l.word(api.WordNumber))
	l.asks(ruleCount, ok)
	l.asks(ruleRange, low <= n && n <= high)
	return n
}

// digits is the number that digits say; false, if a count may not be written so.
func digits(s string) (int, bool) {
	if s == "" || len(s) > mostDigits || s[0] == '0' && s != "0" {
		return 0, false
	}
	n := 0
	for _, c := range s {
		if c < '0' || c > '9' {
			return 0, false
		}
		n = n*10 + int(c-'0')
	}
	return n, true
}

func (l *line) fixed() int64 {
	v, why, _ := fixed.Read(l.word(api.WordNumber))
	l.asks(ruleFixed, why == api.OK)
	return v
}

func (l *line) number() float64 {
	v, why, _ := floats.Read(l.word(api.WordNumber, api.WordName))
	l.asks(ruleNumber, why == api.OK && !math.IsNaN(v))
	return v
}

func (l *line) name() string {
	s := l.word(api.WordNumber, api.WordName)
	l.asks(ruleName, scan.Name(s))
	return s
}

func (l *line) side() api.Side {
	switch {
	case l.takes(api.WordName, "left"):
		return api.SideLeft
	case l.takes(api.WordName, "right"):
		return api.SideRight
	}
	l.breaks(ruleForm)
	return api.SideNone
}

package code

import (
	"slices"

	"thicket/api"
	"thicket/fixed"
	"thicket/floats"
	"thicket/scan"
)

// reader puts a program together, line by line.
type reader struct {
	p     api.Program
	begun bool // its first line has been read
}

// read takes a line that is not blank; false, if it may not be so. What it has added then does no harm, as nothing of the program is answered.
func (r *reader) read(text string) bool {
	words, why, _ := scan.Words(text)
	if why != api.OK {
		return false
	}
	l := line{rest: words}
	if r.begun {
		r.p.Ops = append(r.p.Ops, l.op())
	} else {
		l.must(api.WordName, "code")
		r.p.Features, r.p.Outputs = l.count(), l.count()
		r.begun = true
	}
	return !l.wrong && len(l.rest) == 0
}

// mostDigits is how many digits a count has at most.
const mostDigits = 9

// line is what is left of a line's words while they are taken, and whether one was not as it must be.
type line struct {
	rest  []api.Word
	wrong bool
}

// comes tells whether the next word is of one of these kinds.
func (l *line) comes(kinds ...api.WordKind) bool {
	return len(l.rest) > 0 && slices.Contains(kinds, l.rest[0].Kind)
}

// word takes a word of one of these kinds.
func (l *line) word(kinds ...api.WordKind) string {
	if !l.comes(kinds...) {
		l.wrong = true
		return ""
	}
	text := l.rest[0].Text
	l.rest = l.rest[1:]
	return text
}

// must takes a word that can be but one.
func (l *line) must(kind api.WordKind, text string) {
	if l.word(kind) != text {
		l.wrong = true
	}
}

// op takes the words of an operation.
func (l *line) op() api.Op {
	switch l.word(api.WordName) {
	case "test":
		o := api.Op{Kind: api.OpTest, Feature: l.count()}
		l.must(api.WordMark, "<=")
		o.Threshold = l.number()
		return l.rests(o)
	case "in":
		o := api.Op{Kind: api.OpIn, Feature: l.count()}
		l.must(api.WordName, "of")
		for more := true; more; more = l.comes(api.WordNumber) {
			o.Cats = append(o.Cats, l.count())
		}
		return l.rests(o)
	case "add":
		return add(l.count(), l.fixed())
	case "jump":
		return jump(l.count())
	case "end":
		return api.Op{Kind: api.OpEnd}
	}
	l.wrong = true
	return api.Op{}
}

// rests takes what both kinds of tests have at their end.
func (l *line) rests(o api.Op) api.Op {
	l.must(api.WordName, "missing")
	o.Missing = l.side()
	l.must(api.WordName, "else")
	o.To = l.count()
	return o
}

// count takes a number of nine digits at most.
func (l *line) count() int {
	n, ok := digits(l.word(api.WordNumber))
	if !ok {
		l.wrong = true
	}
	return n
}

// digits is the number that digits say; false, if a count may not be written so.
func digits(s string) (int, bool) {
	if s == "" || len(s) > mostDigits || s[0] == '0' && s != "0" {
		return 0, false
	}
	n := 0
	for _, c := range s {
		if c < '0' || c > '9' {
			return 0, false
		}
		n = n*10 + int(c-'0')
	}
	return n, true
}

func (l *line) fixed() int64 {
	v, why, _ := fixed.Read(l.word(api.WordNumber))
	if why != api.OK {
		l.wrong = true
	}
	return v
}

// number takes a threshold: what is no number, a NaN, may stand here too.
func (l *line) number() float64 {
	v, why, _ := floats.Read(l.word(api.WordNumber, api.WordName))
	if why != api.OK {
		l.wrong = true
	}
	return v
}

func (l *line) side() api.Side {
	switch l.word(api.WordName) {
	case "left":
		return api.SideLeft
	case "right":
		return api.SideRight
	}
	l.wrong = true
	return api.SideNone
}

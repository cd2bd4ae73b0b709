package shop

import (
	"strconv"
	"strings"

	"thicket/api"
	"thicket/scan"
)

// The first words of a journal's lines.
const (
	verbPut      = "put"
	verbWithdraw = "withdraw"
	verbPin      = "pin"
	verbUnpin    = "unpin"
	verbTry      = "try"
	verbStop     = "stop"
)

// entry is a call that changed the shop; version and share are 0 where the call has none.
type entry struct {
	verb, name     string
	version, share int
}

// entries make the model as it is.
func (m model) entries() []entry {
	var l []entry
	for i := range m.versions {
		l = append(l, entry{verb: verbPut, name: m.name, version: i + 1})
	}
	for i, v := range m.versions {
		if v.gone {
			l = append(l, entry{verb: verbWithdraw, name: m.name, version: i + 1})
		}
	}
	if m.pin != none {
		l = append(l, entry{verb: verbPin, name: m.name, version: m.pin})
	}
	if m.trial != (trial{}) {
		l = append(l, entry{verb: verbTry, name: m.name, version: m.trial.version, share: m.trial.share})
	}
	return l
}

// written is what entries are in a journal.
func (s *Shop) written(l []entry) string {
	var b strings.Builder
	for _, e := range l {
		if e.verb == verbPut {
			dump := s.models[e.name].versions[e.version-1].dump
			writeLine(&b, e.verb, e.name, strings.Count(dump, "\n"))
			for line := range strings.Lines(dump) {
				b.WriteString(" ")
				b.WriteString(line)
			}
			continue
		}
		writeLine(&b, e.verb, e.name, e.version, e.share)
	}
	return b.String()
}

// writeLine writes a line's words; a number of 0 is one that the line does not have.
func writeLine(b *strings.Builder, verb, name string, numbers ...int) {
	b.WriteString(verb + " " + name)
	for _, n := range numbers {
		if n > 0 {
			b.WriteString(" " + strconv.Itoa(n))
		}
	}
	b.WriteString("\n")
}

// order is what a line of a journal says is to be done.
type order struct {
	verb, name string
	numbers    []int
	text       string // of a put
}

// orderOf reads a line; false, if it is none of a journal.
func orderOf(line string) (order, bool) {
	words, why, _ := scan.Words(line)
	if why != api.OK || len(words) < 2 || words[0].Kind != api.WordName || !mayName(words[1]) {
		return order{}, false
	}
	o := order{verb: words[0].Text, name: words[1].Text}
	for _, w := range words[2:] {
		n, ok := countOf(w)
		if !ok {
			return order{}, false
		}
		o.numbers = append(o.numbers, n)
	}
	many, ok := numbersOf(o.verb)
	return o, ok && len(o.numbers) == many
}

// numbersOf is how many numbers stand behind a verb and a name; false, if it is no verb.
func numbersOf(verb string) (int, bool) {
	switch verb {
	case verbUnpin, verbStop:
		return 0, true
	case verbPut, verbWithdraw, verbPin:
		return 1, true
	case verbTry:
		return 2, true
	}
	return 0, false
}

// mayName tells whether a name may be written so; names may begin as numbers do.
func mayName(w api.Word) bool { return w.Kind == api.WordName || w.Kind == api.WordNumber }

// mostCount is the greatest number of nine digits.
const mostCount = 999999999

// countOf is the number that a word's digits say; false, if a count may not be written so.
func countOf(w api.Word) (int, bool) {
	n, err := strconv.Atoi(w.Text)
	ok := w.Kind == api.WordNumber && err == nil && n >= 0 && n <= mostCount && strconv.Itoa(n) == w.Text
	return n, ok
}

// textOf is a put's text, taken from the first so many rows, and the rows behind it; false, if these are not such as stand behind a put.
func textOf(rows []api.Row, many int) (string, []api.Row, bool) {
	if many > len(rows) {
		return "", nil, false
	}
	var b strings.Builder
	for _, row := range rows[:many] {
		line, ok := strings.CutPrefix(row.Text, " ")
		if !ok {
			return "", nil, false
		}
		b.WriteString(line)
		b.WriteString("\n")
	}
	return b.String(), rows[many:], true
}

// do does what an order says.
func (s *Shop) do(o order) api.Errno {
	switch o.verb {
	case verbPut:
		_, why, _ := s.Put(o.name, o.text)
		return why
	case verbWithdraw:
		return s.Withdraw(o.name, o.numbers[0])
	case verbPin:
		return s.Pin(o.name, o.numbers[0])
	case verbUnpin:
		return s.Unpin(o.name)
	case verbTry:
		return s.Try(o.name, o.numbers[0], o.numbers[1])
	case verbStop:
		return s.Stop(o.name)
	}
	return api.ErrLine
}

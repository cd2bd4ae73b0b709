package batch

import (
	"slices"

	"thicket/api"
	"thicket/floats"
	"thicket/scan"
)

// ruleNone says that no rule is broken.
const ruleNone = 0

// The rules of a line of Dense, by their numbers.
const (
	denseWords  = iota + 1 // it has words
	denseMany              // it has as many as a vector has numbers
	denseNumber            // each is a number
)

// The rules of a line of Csv.
const (
	csvFields = iota + 1 // it has fields
	csvHeader            // a header has each feature, once
	csvMany              // it has as many fields as the header
	csvNumber            // below each feature stands a number, or nothing
)

// The rules of a line of Sparse.
const (
	sparseWords  = iota + 1 // it has words
	sparseForm              // they are a label, and indices and values with a mark between
	sparseLabel             // the label is a number
	sparseIndex             // an index is one
	sparseRise              // indices rise
	sparseNumber            // a value is a number
)

// lostText is what an empty field of a column says.
const lostText = "nan"

// firstFault hands lines to read, one by one, till one breaks a rule; read tells the least rule that its line breaks.
func firstFault(rows []api.Row, passes func(string) bool, read func(string) int) api.Fault {
	for _, row := range rows {
		if passes(row.Text) {
			continue
		}
		if rule := read(row.Text); rule != ruleNone {
			return api.Fault{Line: row.Number, Rule: rule}
		}
	}
	return api.Fault{}
}

func isEmpty(line string) bool { return line == "" }

// appendNumbers appends the numbers that texts say, and ends at the first one that says none.
func appendNumbers(l []float64, texts ...string) ([]float64, bool) {
	for _, s := range texts {
		v, why, _ := floats.Read(s)
		if why != api.OK {
			return l, false
		}
		l = append(l, v)
	}
	return l, true
}

// numberText is the text of a word that may be a number; of another one the empty text, which is no number's.
func numberText(w api.Word) string {
	if w.Kind == api.WordNumber || w.Kind == api.WordName {
		return w.Text
	}
	return ""
}

// vectorsOf cuts numbers into vectors of d: they share one array, but none has room in which another one stands.
func vectorsOf(numbers []float64, d int) [][]float64 {
	var l [][]float64
	for from := 0; from < len(numbers); from += d {
		l = append(l, numbers[from:from+d:from+d])
	}
	return l
}

// denseReader gathers the numbers of all vectors, one behind another.
type denseReader struct {
	d       int
	numbers []float64
}

func (r *denseReader) read(line string) int {
	words, why, _ := scan.Words(line)
	switch {
	case why != api.OK:
		return denseWords
	case len(words) != r.d:
		return denseMany
	}
	var texts []string
	for _, w := range words {
		texts = append(texts, numberText(w))
	}
	ok := false
	if r.numbers, ok = appendNumbers(r.numbers, texts...); !ok {
		return denseNumber
	}
	return ruleNone
}

// csvReader gathers the numbers of all vectors, in the order of the features.
type csvReader struct {
	places  map[string]int // of the features
	columns []int          // in which each of them stands
	width   int            // how many fields the header has; 0 till it is read
	numbers []float64
}

func (r *csvReader) read(line string) int {
	fields, why, _ := scan.Fields(line, ',')
	switch {
	case why != api.OK:
		return csvFields
	case r.width == 0:
		return r.header(fields)
	case len(fields) != r.width:
		return csvMany
	}
	return r.vector(fields)
}

// header finds the features' columns.
func (r *csvReader) header(fields []string) int {
	const none = -1
	r.width = len(fields)
	r.columns = slices.Repeat([]int{none}, len(r.places))
	missing := len(r.places)
	for column, name := range fields {
		place, asked := r.places[name]
		if !asked {
			continue
		}
		if r.columns[place] != none {
			return csvHeader
		}
		r.columns[place] = column
		missing--
	}
	if missing > 0 {
		return csvHeader
	}
	return ruleNone
}

func (r *csvReader) vector(fields []string) int {
	var texts []string
	for _, column := range r.columns {
		s := fields[column]
		if s == "" {
			s = lostText
		}
		texts = append(texts, s)
	}
	ok := false
	if r.numbers, ok = appendNumbers(r.numbers, texts...); !ok {
		return csvNumber
	}
	return ruleNone
}

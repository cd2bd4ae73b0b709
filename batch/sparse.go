package batch

import (
	"math"

	"thicket/api"
	"thicket/scan"
)

// sparseReader gathers labels, and the numbers that are told. Those that are not come to stand beside them only when all lines are right: a short text may have very many.
type sparseReader struct {
	d       int
	labels  []float64
	numbers []float64
	places  []int // of the numbers, among those of all vectors
}

func (r *sparseReader) read(line string) int {
	words, why, _ := scan.Words(line)
	switch {
	case why != api.OK:
		return sparseWords
	case !areTriples(words):
		return sparseForm
	}
	first := len(r.labels) * r.d
	ok := false
	if r.labels, ok = appendNumbers(r.labels, numberText(words[0])); !ok {
		return sparseLabel
	}
	var indices []int
	var texts []string
	for at := 1; at < len(words); at += 3 {
		indices = append(indices, indexOf(words[at], r.d))
		texts = append(texts, numberText(words[at+2]))
	}
	if rule := ruleOfIndices(indices); rule != ruleNone {
		return rule
	}
	if r.numbers, ok = appendNumbers(r.numbers, texts...); !ok {
		return sparseNumber
	}
	for _, i := range indices {
		r.places = append(r.places, first+i-1)
	}
	return ruleNone
}

// areTriples tells whether words are one, and behind it threes with a colon in their midst.
func areTriples(words []api.Word) bool {
	if len(words)%3 != 1 {
		return false
	}
	for at := 2; at < len(words); at += 3 {
		if w := words[at]; w.Kind != api.WordMark || w.Text != ":" {
			return false
		}
	}
	return true
}

// indexOf is the index that a word says, from 1 to d; 0, if it says none.
func indexOf(w api.Word, d int) int {
	if w.Kind != api.WordNumber || w.Text[0] == '0' {
		return 0
	}
	n := 0
	for _, c := range w.Text {
		if c < '0' || c > '9' {
			return 0
		}
		// It ends here already, as further digits might wrap.
		if n = n*10 + int(c-'0'); n > d {
			return 0
		}
	}
	return n
}

// ruleOfIndices is the least rule that indices break: one that is none counts ahead of all that do not rise.
func ruleOfIndices(l []int) int {
	rule := ruleNone
	for i, n := range l {
		switch {
		case n == 0:
			return sparseIndex
		case i > 0 && n <= l[i-1]:
			rule = sparseRise
		}
	}
	return rule
}

// all are the numbers of all vectors, one behind another.
func (r *sparseReader) all(lost bool) []float64 {
	all := make([]float64, len(r.labels)*r.d)
	if lost {
		for i := range all {
			all[i] = math.NaN()
		}
	}
	for i, place := range r.places {
		all[place] = r.numbers[i]
	}
	return all
}

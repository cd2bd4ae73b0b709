package text

import (
	"strconv"
	"strings"
	"testing"

	"thicket/api"
)

// choice is words that may stand in a place of a line, and the least rule that they break: 0, if they break none.
type choice struct {
	words string
	rule  int
}

// place is all that is tried at one place of a line; the first choice is the right one.
type place []choice

func always(words string) place { return place{{words, 0}} }

// small is a word that has to stand there as it is.
func small(word string) place {
	return place{{word, 0}, {"", 3}, {"x", 3}, {strings.ToUpper(word), 3}, {`"` + word + `"`, 3}, {word + " " + word, 3}}
}

// first is a line's first word.
func first(word string) place {
	return place{{word, 0}, {"x", 2}, {strings.ToUpper(word), 2}, {word + "s", 2}, {`"` + word + `"`, 2}, {"7", 2}, {"<=", 2}, {"?", 1}, {`"` + word, 1}, {word + " !", 1}, {"", 2}}
}

// tail is what stands behind a line's words.
func tail() place {
	return place{{"", 0}, {" # x?", 0}, {"x", 3}, {"1", 3}, {",", 3}, {`"x"`, 3}, {"?", 1}, {"\x7f", 1}, {`"`, 1}, {"é", 1}}
}

// count is a number of digits with the least and the greatest that may stand there.
func count(right, low, high int) place {
	l := place{{strconv.Itoa(right), 0}, {strconv.Itoa(low), 0}, {strconv.Itoa(high), 0}, {strconv.Itoa(high + 1), 8}, {"999999999", 8}, {"1000000000", 4}, {"00", 4}, {"01", 4}, {"0" + strconv.Itoa(high), 4}, {"+1", 4}, {"-1", 4}, {"-0", 4},
		{"1.0", 4}, {"1e0", 4}, {"0x1", 4}, {"1_0", 4}, {".", 4}, {"99999999999999999999999999", 4}, {"x", 3}, {"_1", 3}, {`"1"`, 3}, {"=", 3}, {"", 3}}
	if low > 0 {
		l = append(l, choice{"0", 8}, choice{strconv.Itoa(low - 1), 8})
	}
	return l
}

// oneOf is a count that may be nothing else.
func oneOf(right int) place {
	return place{{strconv.Itoa(right), 0}, {strconv.Itoa(right + 1), 8}, {"0" + strconv.Itoa(right), 4}, {strconv.Itoa(right) + ".0", 4}, {"x", 3}, {`"1"`, 3}, {"", 3}}
}

// fixeds are choices of one fixed number.
func fixeds() place {
	return place{{"0.5", 0}, {"-0", 0}, {"007.250000", 0}, {"-3", 0}, {"0.1234567", 5}, {"1.", 5}, {".5", 5}, {"+1", 5}, {"1e3", 5}, {"-inf", 5}, {"0x1", 5}, {"-", 5}, {"9223372036854.775808", 5}, {"-9223372036854.775809", 5},
		{strings.Repeat("0", api.MaxNumber), 0}, {strings.Repeat("0", api.MaxNumber+1), 5}, {"x", 3}, {"nan", 3}, {`"1"`, 3}, {"(", 3}, {"", 3}}
}

// numbers are choices of a threshold.
func numbers() place {
	return place{{"0.5", 0}, {"inf", 0}, {"-inf", 0}, {"-0", 0}, {"5e-324", 0}, {"1e999", 0}, {"0x1.8p-1", 0}, {"007", 0}, {"nan", 6}, {"-nan", 6}, {"NaN", 6}, {"Inf", 6}, {"infinity", 6}, {"+1", 6}, {".5", 6}, {"1.", 6}, {"1e", 6}, {"0x1", 6}, {"x", 6}, {"-", 6},
		{"0." + strings.Repeat("3", api.MaxNumber-2), 0}, {"0." + strings.Repeat("3", api.MaxNumber-1), 6}, {`"1"`, 3}, {">", 3}, {"", 3}}
}

// aName are choices of a name, none of which has stood ahead.
func aName() place {
	return place{{"b", 0}, {"-.9_", 0}, {"1e+5", 7}, {"+", 7}, {"nan", 0}, {"end", 0}, {strings.Repeat("n", api.MaxName), 0}, {strings.Repeat("n", api.MaxName+1), 7}, {`"b"`, 3}, {":", 3}, {"", 3}}
}

// few has the first choice, and one for each rule: where many places are tried together.
func few(p place) place {
	var l place
	had := make(map[int]bool)
	for _, c := range p {
		if !had[c.rule] {
			had[c.rule] = true
			l = append(l, c)
		}
	}
	return l
}

// together tries every choice of each place by itself, and with every one of few of all other places: the least rule is told.
func together(t *testing.T, text []string, number, told int, places ...place) {
	t.Helper()
	judge := func(l place) {
		var words []string
		rule := 0
		for _, c := range l {
			words = append(words, c.words)
			if c.rule != 0 && (rule == 0 || c.rule < rule) {
				rule = c.rule
			}
		}
		line := strings.Join(words, " ")
		if strings.TrimSpace(line) == "" {
			return // it is passed over
		}
		s := joined(with(text, number, line))
		switch _, why, f := Parse(s); {
		case rule == 0 && f.Line == number:
			t.Errorf("9.1: line %d, %.80q: %d, %v, though it breaks no rule", number, line, why, f)
		case rule >= 12 && f != (api.Fault{Line: told, Rule: rule}), rule > 0 && rule < 12 && f != (api.Fault{Line: number, Rule: rule}), rule > 0 && why != api.ErrLine:
			t.Errorf("9.1: line %d, %.80q: %d, %v, not rule %d", number, line, why, f, rule)
		}
	}
	for i, p := range places {
		for _, c := range p {
			l := make(place, len(places))
			for k := range places {
				l[k] = places[k][0]
			}
			l[i] = c
			judge(l)
		}
	}
	var grow func(l place)
	grow = func(l place) {
		if len(l) == len(places) {
			judge(l)
			return
		}
		for _, c := range few(places[len(l)]) {
			grow(append(l[:len(l):len(l)], c))
		}
	}
	grow(nil)
}

// Each rule is broken alone and together with each other that the line can break, at every line of a text.
func TestLinesOfTheHead(t *testing.T) {
	for _, text := range [][]string{example(), rightWide()} {
		n := len(text)
		together(t, text, 1, 0, first("thicket"), oneOf(1), tail())
		together(t, text, 2, 0, first("name"), aName(), tail())
		together(t, text, 3, 0, first("outputs"), count(1, 1, api.MaxOutputs), tail())
		together(t, text, 5, 0, first("features"), count(1, 1, api.MaxFeatures), tail())
		together(t, text, n, 0, first("end"), tail())
	}
	text := example()
	ahead := place{{"a", 10}}
	together(t, text, 6, 0, first("feature"), append(aName(), choice{"a", 0}), tail())
	together(t, text, 7, 0, first("feature"), append(aName(), ahead...), tail())
	together(t, rightWide(), 8, 0, first("feature"), append(aName(), choice{"9", 10}, choice{"a", 10}, choice{"A", 0}), tail())
	together(t, text, 8, 0, first("trees"), count(1, 0, api.MaxTrees), tail())
	together(t, rightWide(), 9, 0, first("trees"), count(4, 0, api.MaxTrees), tail())
}

func TestLinesOfBase(t *testing.T) {
	one, two := example(), rightWide()
	full := place{{"4611686018427.387904", 13}, {"-4611686018427.387904", 13}, {"9223372036854.775807", 13}, {"-9223372036854.775808", 13}}
	together(t, one, 4, 4, first("base"), append(fixeds(), full...), tail()[:1])
	more := place{{"1", 0}, {"", 9}, {"1 2", 9}, {"1 2 x", 3}, {"1 2 3.", 5}, {"1.0000001 2", 5}, {"4611686018427.387904", 13}, {"0 -4611686018427.387904", 9}}
	together(t, two, 4, 4, first("base"), append(few(fixeds()), full[0]), more, place{{"", 0}, {"x", 3}, {"?", 1}})
	for _, words := range []string{"base 4611686018427.387904 9", "base 9 9 4611686018427.387904"} {
		rule := 13
		if strings.Count(words, " ") == 3 {
			rule = 9
		}
		refused(t, words, joined(with(two, 4, words)), 4, rule)
	}
}

func TestLinesOfTrees(t *testing.T) {
	together(t, example(), 9, 0, first("tree"), oneOf(0), count(3, 1, 2*api.MaxLeaves-1), tail())
	together(t, rightWide(), 10, 0, first("tree"), count(1, 0, 1), count(5, 1, 2*api.MaxLeaves-1), tail())
	together(t, rightWide(), 22, 0, first("tree"), count(0, 0, 1), count(3, 1, 2*api.MaxLeaves-1), tail())
}

func leafFirst() place {
	return append(first("leaf"), choice{"tree", 2}, choice{"end", 2}, choice{"base", 2})
}

func TestLinesOfLeaves(t *testing.T) {
	big := place{{"4611686018427.387904", 13}, {"-9223372036854.775808", 13}}
	together(t, example(), 11, 12, leafFirst(), append(fixeds(), big...), tail()) // a node in the middle: its sum is told at the last one
	together(t, example(), 12, 12, leafFirst(), append(fixeds(), big...), tail())
	together(t, rightWide(), 25, 25, leafFirst(), append(fixeds(), big...), tail())
	together(t, rightWide(), 17, 17, leafFirst(), append(fixeds(), big...), tail()) // a tree's only node
}

// The last node of wide's first tree is a split, so that each rule of nodes can be broken there: by a number of a node rule 12 too, by a leaf ahead rule 13.
func TestLinesOfSplits(t *testing.T) {
	word := append(first("split"), choice{"tree", 2}, choice{"leaf", 3})
	name := place{{"9", 0}, {"a", 0}, {"in", 0}, {"1e+5", 7}, {"+", 7}, {strings.Repeat("n", api.MaxName+1), 7}, {"b", 10}, {"A", 10}, {"nan", 10}, {"to", 10}, {strings.Repeat("n", api.MaxName), 10}, {`"9"`, 3}, {":", 3}, {"", 3}}
	below := place{{"<=", 0}, {"<", 3}, {"=", 3}, {"<= <=", 3}, {">=", 3}, {"!=", 3}, {`"<="`, 3}, {"is", 3}, {"", 3}}
	within := place{{"in", 0}, {"IN", 3}, {`"in"`, 3}, {"to", 3}, {"=", 3}, {"", 3}}
	cats := place{{"0 7", 0}, {"5", 0}, {"0", 0}, {"1023", 0}, {"0 1 2 3 4 5 6 7 8 9 10", 0}, {"7 0", 11}, {"7 7", 11}, {"0 1 1", 11}, {"1 2 3 2 4", 11}, {"1024", 8}, {"1 1024", 8}, {"1024 1", 8}, {"999999999", 8},
		{"7 1000000000", 4}, {"07", 4}, {"00", 4}, {"-1", 4}, {"1 +2", 4}, {"1.5", 4}, {"", 3}, {"x", 3}, {"1 , 2", 3}, {"1 x", 3}, {`"1"`, 3}, {"1 to", 3}}
	node := func(right string) place {
		return place{{right, 0}, {"1", 12}, {"4", 12}, {"0", 8}, {"5", 8}, {"999999999", 8}, {"1000000000", 4}, {"0" + right, 4}, {"-" + right, 4}, {"+" + right, 4}, {right + ".0", 4}, {"x", 3}, {`"` + right + `"`, 3}, {":", 3}, {"", 3}}
	}
	side := append(small("left"), choice{"right", 0}, choice{"none", 3}, choice{"1", 3})
	full := with(rightWide(), 12, "leaf 4611686018427.387904")
	fullRoom := place{{"missing", 13}, {"missing missing", 3}}
	together(t, rightWide(), 15, 15, word, name, below, numbers(), small("to"), node("2"), node("3"), small("missing"), side, tail()[:2])
	together(t, rightWide(), 15, 15, word, name, within, cats, small("to"), node("2"), node("3"), small("missing"), side, tail()[:2])
	together(t, full, 15, 15, word[:2], name, below, numbers(), small("to")[:1], node("2"), node("3"), fullRoom, side[:1], tail())
	together(t, full, 15, 15, word[:2], name, within, cats, small("to")[:1], node("2"), node("3"), fullRoom, side[:1], tail())
	together(t, rightWide(), 19, 21, word, name, below, numbers(), small("to"), place{{"1", 0}, {"0", 8}, {"3", 8}, {"01", 4}}, place{{"2", 0}, {"1", 12}, {"3", 8}, {"x", 3}}, small("missing"), side, tail()[:2])
}

// Splits without some of their words, wherever they stand.
func TestSplitsOfOtherForms(t *testing.T) {
	for _, words := range []string{
		"split", "split a", "split a to 2 3 missing left", "split a <= to 2 3 missing left", "split a in to 2 3 missing left", "split to 2 3 missing left", "split a <= 1", "split a <= 1 to", "split a <= 1 to 2", "split a <= 1 to 2 3", "split a <= 1 to 2 3 missing", "split a <= 1 2 to 2 3 missing left",
		"split a <= 1 to 2 3 4 missing left", "split a <= 1 to 2 3 left", "split a <= 1 missing left to 2 3", "split a <= in 1 to 2 3 missing left", "split a 1 to 2 3 missing left", "split a in 1 2", "split a in 1 to 2 3", "split a in 1, 2 to 2 3 missing left", "split <= 1 to 2 3 missing left", "split a b <= 1 to 2 3 missing left", "split 1 >= a to 2 3 missing left",
		"split a <= 1 to 2 3 missing left right", "split a < = 1 to 2 3 missing left", "leaf", "leaf 1 2", "leaf a", "leaf <= 1",
	} {
		refused(t, words, joined(with(rightWide(), 11, words)), 11, 3)
		refused(t, words, joined(with(rightWide(), 15, words)), 15, 3)
		refused(t, words, joined(with(rightWide(), 17, words)), 17, 3)
	}
}

// Of two lines that break a rule the least is told, whatever the rules.
func TestTheLeastLine(t *testing.T) {
	text := rightWide()
	bad := map[int]map[int]string{ // by line and rule
		1:  {1: "thicket ?", 2: "name m", 3: "thicket", 4: "thicket 01", 8: "thicket 2"},
		2:  {1: "name !", 2: "thicket 1", 3: "name a b", 7: "name +"},
		3:  {1: `outputs "`, 3: "outputs x", 4: "outputs 02", 8: "outputs 65"},
		4:  {1: "base 1 \x01", 2: "bases 1 2", 3: "base", 5: "base 1 2.", 9: "base 1", 13: "base 1 4611686018427.387904"},
		8:  {2: "trees 4", 3: "feature", 7: "feature 1+1", 10: "feature a"},
		14: {1: "leaf ~", 2: "end", 3: "leaf 1 2", 5: "leaf 1e3"},
		15: {6: "split a <= nan to 2 3 missing left", 8: "split a <= 1 to 2 5 missing left", 11: "split a in 1 1 to 2 3 missing left", 12: "split a <= 1 to 2 2 missing left"},
		17: {13: "leaf 9223372036854.775807"},
		26: {1: "end ?", 2: "ends", 3: "end end"},
	}
	for line, l := range bad {
		for rule, one := range l {
			refused(t, one, joined(with(text, line, one)), line, rule)
			for other, m := range bad {
				for _, two := range m {
					if other > line {
						refused(t, one+" and "+two, joined(with(with(text, line, one), other, two)), line, rule)
					}
				}
			}
		}
	}
}

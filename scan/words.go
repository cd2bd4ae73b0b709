package scan

import (
	"strings"

	"thicket/api"
)

// kind is what a byte is good for outside of quoted texts and comments.
type kind uint8

const (
	nothing kind = iota
	blank
	letter // _ too
	digit
	joint // - and . begin a number, and go on in names too
	plus
	mark
	half // a mark with = behind it only
	quote
	remark
)

// kinds has no place for bytes above 7f: they are good for nothing.
var kinds = [128]kind{
	'\t': blank, ' ': blank,
	'A': letter, 'B': letter, 'C': letter, 'D': letter, 'E': letter, 'F': letter, 'G': letter, 'H': letter, 'I': letter, 'J': letter, 'K': letter, 'L': letter, 'M': letter,
	'N': letter, 'O': letter, 'P': letter, 'Q': letter, 'R': letter, 'S': letter, 'T': letter, 'U': letter, 'V': letter, 'W': letter, 'X': letter, 'Y': letter, 'Z': letter,
	'a': letter, 'b': letter, 'c': letter, 'd': letter, 'e': letter, 'f': letter, 'g': letter, 'h': letter, 'i': letter, 'j': letter, 'k': letter, 'l': letter, 'm': letter,
	'n': letter, 'o': letter, 'p': letter, 'q': letter, 'r': letter, 's': letter, 't': letter, 'u': letter, 'v': letter, 'w': letter, 'x': letter, 'y': letter, 'z': letter,
	'_': letter,
	'0': digit, '1': digit, '2': digit, '3': digit, '4': digit, '5': digit, '6': digit, '7': digit, '8': digit, '9': digit,
	'-': joint, '.': joint,
	'+': plus,
	',': mark, ':': mark, ';': mark, '=': mark, '<': mark, '>': mark, '(': mark, ')': mark, '[': mark, ']': mark, '{': mark, '}': mark, '|': mark,
	'!': half,
	'"': quote,
	'#': remark,
}

func kindOf(c byte) kind {
	if int(c) >= len(kinds) {
		return nothing
	}
	return kinds[c]
}

func inName(k kind) bool { return k == letter || k == digit || k == joint }

func inNumber(k kind) bool { return inName(k) || k == plus }

// run is with how many bytes of such kinds a text begins.
func run(s string, in func(kind) bool) int {
	n := 0
	for n < len(s) && in(kindOf(s[n])) {
		n++
	}
	return n
}

// firstWord is the word with which a text begins, and how many bytes it takes; or what is wrong with it, and where.
func firstWord(s string) (api.Word, api.Errno, int) {
	switch kindOf(s[0]) {
	case letter:
		return asWritten(api.WordName, s, run(s, inName))
	case digit, joint, plus:
		return asWritten(api.WordNumber, s, run(s, inNumber))
	case mark, half:
		if n := markLength(s); n > 0 {
			return asWritten(api.WordMark, s, n)
		}
	case quote:
		text, n, ok := unquoted(s)
		if !ok {
			return api.Word{}, api.ErrQuote, n
		}
		return api.Word{Kind: api.WordText, Text: text}, api.OK, n
	}
	return api.Word{}, api.ErrByte, 0
}

func asWritten(k api.WordKind, s string, n int) (api.Word, api.Errno, int) {
	return api.Word{Kind: k, Text: strings.Clone(s[:n])}, api.OK, n
}

// markLength is how many bytes the mark takes with which a text begins: 0, if it is none.
func markLength(s string) int {
	switch {
	case len(s) > 1 && s[1] == '=' && strings.IndexByte("<>!", s[0]) >= 0:
		return 2
	case kindOf(s[0]) == half:
		return 0
	}
	return 1
}

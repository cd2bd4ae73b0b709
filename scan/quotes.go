package scan

import "strings"

const hexDigits = "0123456789abcdef"

// mayQuote tells of a byte, not " or \, whether it may stand as it is in a quoted text.
func mayQuote(c byte) bool { return c >= ' ' && c != 0x7f }

// unquoted is what the quoted text says with which s begins, and how many bytes it takes; if it is none, the place where it can't go on.
func unquoted(s string) (string, int, bool) {
	var b strings.Builder
	for at := 1; at < len(s); {
		said, n, ok := s[at], 1, true
		switch {
		case said == '"':
			return b.String(), at + 1, true
		case said == '\\':
			said, n, ok = escaped(s[at:])
		case !mayQuote(said):
			return "", at, false
		}
		at += n
		if !ok {
			return "", at, false
		}
		b.WriteByte(said)
	}
	return "", len(s), false
}

// escaped is the byte that the escape says with which s begins, and how many bytes it takes; if it is none, the place where it can't go on.
func escaped(s string) (byte, int, bool) {
	if len(s) == 1 {
		return 0, 1, false
	}
	switch s[1] {
	case '"', '\\':
		return s[1], 2, true
	case 'n':
		return '\n', 2, true
	case 't':
		return '\t', 2, true
	case 'x':
		return hexByte(s)
	}
	return 0, 1, false
}

// hexByte is as escaped, of what begins with \x.
func hexByte(s string) (byte, int, bool) {
	said := 0
	for at := 2; at < 4; at++ {
		if at == len(s) || hexValue(s[at]) < 0 {
			return 0, at, false
		}
		said = said*16 + hexValue(s[at])
	}
	return byte(said), 4, true
}

// hexValue is what a hexadecimal digit of either case says, -1 of what is none.
func hexValue(c byte) int {
	if c >= 'A' && c <= 'F' {
		c += 'a' - 'A'
	}
	return strings.IndexByte(hexDigits, c)
}

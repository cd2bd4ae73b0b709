package scan

import "strings"

// mayCut tells whether fields can be cut at a byte.
func mayCut(by byte) bool { return by != '"' && by != '\r' && by != '\n' }

// firstField is what the field says with which s begins, and how many bytes it takes; false and the length of s, if its quotes do not end.
func firstField(s string, by byte) (string, int, bool) {
	if strings.HasPrefix(s, `"`) {
		return undoubled(s)
	}
	n := strings.IndexByte(s, by)
	if n < 0 {
		n = len(s)
	}
	return strings.Clone(s[:n]), n, true
}

// undoubled is as firstField, of a field in quotes.
func undoubled(s string) (string, int, bool) {
	var b strings.Builder
	for rest := s[1:]; ; rest = rest[1:] {
		n := strings.IndexByte(rest, '"')
		if n < 0 {
			return "", len(s), false
		}
		b.WriteString(rest[:n])
		rest = rest[n+1:]
		if !strings.HasPrefix(rest, `"`) {
			return b.String(), len(s) - len(rest), true
		}
		b.WriteByte('"')
	}
}

// fieldText is a field as it stands in a line.
func fieldText(field string, by byte) string {
	if strings.IndexByte(field, by) < 0 && !strings.HasPrefix(field, `"`) {
		return field
	}
	return `"` + strings.ReplaceAll(field, `"`, `""`) + `"`
}

package code

import (
	"strconv"
	"strings"

	"thicket/api"
	"thicket/fixed"
	"thicket/floats"
)

// writeLine writes words with a blank between.
func writeLine(b *strings.Builder, words []string) {
	b.WriteString(strings.Join(words, " "))
	b.WriteByte('\n')
}

func headWords(p api.Program) []string {
	return []string{"code", strconv.Itoa(p.Features), strconv.Itoa(p.Outputs)}
}

// opWords is what a right operation's line says.
func opWords(o *api.Op) []string {
	switch o.Kind {
	case api.OpTest:
		return append([]string{"test", strconv.Itoa(o.Feature), "<=", floats.Shortest(o.Threshold)}, restWords(o)...)
	case api.OpIn:
		words := []string{"in", strconv.Itoa(o.Feature), "of"}
		for _, c := range o.Cats {
			words = append(words, strconv.Itoa(c))
		}
		return append(words, restWords(o)...)
	case api.OpAdd:
		return []string{"add", strconv.Itoa(o.Output), fixed.Print(o.Value)}
	case api.OpJump:
		return []string{"jump", strconv.Itoa(o.To)}
	}
	return []string{"end"}
}

// restWords is what both kinds of tests say at their end.
func restWords(o *api.Op) []string {
	side := "right"
	if o.Missing == api.SideLeft {
		side = "left"
	}
	return []string{"missing", side, "else", strconv.Itoa(o.To)}
}

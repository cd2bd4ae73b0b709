package foreign

import (
	"strings"

	"thicket/api"
)

// The rows that have no key.
const (
	firstRow = "tree"
	lastRow  = "end of trees"
)

// sectionKey is the one with which a section begins.
const sectionKey = "Tree"

// part is the header or a section. Its keys are those that are told of it: one that is not there has no row. What is missing is told at the row of begin: where a section begins, or where the header has ended.
type part struct {
	begin int
	keys  map[string]entry
}

func newPart(begin int, keys ...string) part {
	p := part{begin: begin, keys: make(map[string]entry, len(keys))}
	for _, key := range keys {
		p.keys[key] = entry{}
	}
	return p
}

func newHeader() part {
	return newPart(0, "num_class", "num_tree_per_iteration", "feature_names")
}

func newSection(begin int) part {
	return newPart(begin, sectionKey, "num_leaves", "leaf_value", "split_feature", "threshold", "decision_type", "left_child", "right_child", "num_cat", "cat_boundaries", "cat_threshold")
}

// put keeps a key's row, if the key says anything here.
func (p part) put(key string, e entry) {
	ahead, told := p.keys[key]
	if !told {
		return
	}
	if ahead.isThere() {
		failAt(e.row)
	}
	p.keys[key] = e
}

// needs is what stands at a key that has to be there.
func (p part) needs(key string) entry {
	e := p.keys[key]
	if !e.isThere() {
		failAt(p.begin)
	}
	return e
}

// cut parts a text's rows, up to the last one that is looked at: the header comes first, then the sections.
func cut(rows []api.Row) []part {
	var l []part
	for _, row := range rows {
		switch {
		case isEmpty(row.Text):
		case len(l) == 0:
			if row.Text != firstRow {
				failAt(row.Number)
			}
			l = append(l, newHeader())
		case row.Text == lastRow:
			l[0].begin = row.Number
			if len(l) > 1 {
				l[0].begin = l[1].begin
			}
			return l
		default:
			l = withKey(l, row)
		}
	}
	panic(fault{api.ErrForeign, len(rows) + 1})
}

// withKey puts a key's row where it belongs: into a new section, or into the last part.
func withKey(l []part, row api.Row) []part {
	key, value, ok := strings.Cut(row.Text, "=")
	if !ok {
		failAt(row.Number)
	}
	if key == sectionKey {
		l = append(l, newSection(row.Number))
	}
	l[len(l)-1].put(key, entry{row.Number, value})
	return l
}

// isEmpty tells whether a row has no byte but blanks.
func isEmpty(text string) bool { return strings.Trim(text, " \t") == "" }

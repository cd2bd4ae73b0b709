package json

import (
	"strings"

	"thicket/api"
)

const hexDigits = "0123456789abcdef"

// printer writes right values; it gives up where the text gets too long.
type printer struct{ text []byte }

func (p *printer) write(s string) {
	if len(s) > api.MaxJson-len(p.text) {
		panic(fault{why: api.ErrLong})
	}
	p.text = append(p.text, s...)
}

func (p *printer) value(v api.Json) {
	switch v.Kind {
	case api.JsonNull:
		p.write("null")
	case api.JsonFalse:
		p.write("false")
	case api.JsonTrue:
		p.write("true")
	case api.JsonNumber:
		p.write(v.Text)
	case api.JsonText:
		p.quote(v.Text)
	case api.JsonList:
		p.within("[", v, "]")
	case api.JsonObject:
		p.within("{", v, "}")
	}
}

// within writes a list or an object: of a list no item has a name.
func (p *printer) within(begin string, v api.Json, end string) {
	p.write(begin)
	for i, item := range v.Items {
		if i > 0 {
			p.write(",")
		}
		if v.Kind == api.JsonObject {
			p.quote(v.Names[i])
			p.write(":")
		}
		p.value(item)
	}
	p.write(end)
}

// quote writes a text.
func (p *printer) quote(s string) {
	p.write(`"`)
	for i := range len(s) {
		p.write(written(s[i : i+1]))
	}
	p.write(`"`)
}

// written is a text's byte as it is written.
func written(s string) string {
	c := s[0]
	if i := strings.IndexByte(said[:len(said)-1], c); i >= 0 {
		return `\` + letters[i:i+1]
	}
	if c < ' ' {
		return `\u00` + string([]byte{hexDigits[c>>4], hexDigits[c&15]})
	}
	return s
}

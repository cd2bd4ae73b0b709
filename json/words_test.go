package json

import (
	"bytes"
	other "encoding/json"
	"strings"
	"testing"

	"thicket/api"
)

// A second opinion: a machine that is fed a text byte by byte and knows no more than what may stand next; what a text says is told by the library.

type machine struct {
	state string // what the last byte was in, or what is expected next
	stack []byte // [ and { that are open
	word  string // what is left of null, false, true
	from  int    // where the text, the escape or the character begins that is being read
	begin int    // where the whole text begins
	named bool   // it is a name
	names []map[string]int
	code  int // what hexadecimal digits say, and how many there are
	many  int
	half  int // where a first half begins that waits for the other one, or -1
	rest  [][2]byte
}

const blankBytes = " \t\n\r"

func has(these string, c byte) bool { return strings.IndexByte(these, c) >= 0 }

// fed is what the machine says of a text.
func fed(b []byte) (api.Errno, int) {
	m := &machine{state: "value", half: -1}
	for at := range b {
		if why, place := m.step(b, at); why != api.OK {
			return why, place
		}
	}
	switch m.state {
	case "0", "whole", "part", "power":
		if len(m.stack) == 0 {
			return api.OK, 0
		}
	case "behind":
		if len(m.stack) == 0 {
			return api.OK, 0
		}
	case "character":
		return api.ErrJson, m.from
	}
	return api.ErrJson, len(b)
}

func (m *machine) step(b []byte, at int) (api.Errno, int) {
	c := b[at]
	switch m.state {
	case "value", "item", "behind", "name", "first name", "colon":
		return m.between(c, at)
	case "word":
		if c != m.word[0] {
			return api.ErrJson, at
		}
		if m.word = m.word[1:]; m.word == "" {
			m.state = "behind"
		}
		return api.OK, 0
	case "text", "escape", "hex", "character":
		return m.within(b, at)
	}
	return m.number(c, at)
}

func (m *machine) between(c byte, at int) (api.Errno, int) {
	top := byte(0)
	if len(m.stack) > 0 {
		top = m.stack[len(m.stack)-1]
	}
	values := m.state == "value" || m.state == "item"
	switch {
	case has(blankBytes, c):
	case m.state == "colon" && c == ':':
		m.state = "value"
	case m.state == "behind" && top == '[' && c == ',':
		m.state = "value"
	case m.state == "behind" && top == '{' && c == ',':
		m.state = "name"
	case (m.state == "behind" || m.state == "item") && top == '[' && c == ']', (m.state == "behind" || m.state == "first name") && top == '{' && c == '}':
		m.stack, m.names, m.state = m.stack[:len(m.stack)-1], m.names[:len(m.names)-1], "behind"
	case (m.state == "name" || m.state == "first name" || values) && c == '"':
		m.named, m.begin, m.state = !values, at, "text"
	case values && (c == '[' || c == '{'):
		if len(m.stack) == 256 {
			return api.ErrDeep, at
		}
		m.stack, m.names = append(m.stack, c), append(m.names, map[string]int{})
		m.state = map[byte]string{'[': "item", '{': "first name"}[c]
	case values && has("nft", c):
		m.state, m.word = "word", map[byte]string{'n': "ull", 'f': "alse", 't': "rue"}[c]
	case values && has("-0123456789", c):
		m.state = "sign"
		if c != '-' {
			return m.number(c, at)
		}
	default:
		return api.ErrJson, at
	}
	return api.OK, 0
}

func (m *machine) number(c byte, at int) (api.Errno, int) {
	digit := has("0123456789", c)
	switch {
	case m.state == "sign" && c == '0':
		m.state = "0"
	case m.state == "sign" && digit:
		m.state = "whole"
	case (m.state == "0" || m.state == "whole") && c == '.':
		m.state = "point"
	case (m.state == "0" || m.state == "whole" || m.state == "part") && has("eE", c):
		m.state = "e"
	case m.state == "e" && has("+-", c):
		m.state = "power's sign"
	case (m.state == "e" || m.state == "power's sign") && digit:
		m.state = "power"
	case m.state == "point" && digit:
		m.state = "part"
	case (m.state == "whole" || m.state == "part" || m.state == "power") && digit:
	case m.state == "0" || m.state == "whole" || m.state == "part" || m.state == "power":
		m.state = "behind"
		return m.between(c, at)
	default:
		return api.ErrJson, at
	}
	return api.OK, 0
}

// utf8Rest are the ranges of the bytes behind a character's first one (RFC 3629); false, if it is none.
func utf8Rest(c byte) ([][2]byte, bool) {
	any := [2]byte{0x80, 0xbf}
	switch {
	case c >= 0xc2 && c <= 0xdf:
		return [][2]byte{any}, true
	case c == 0xe0:
		return [][2]byte{{0xa0, 0xbf}, any}, true
	case c == 0xed:
		return [][2]byte{{0x80, 0x9f}, any}, true
	case c >= 0xe1 && c <= 0xef:
		return [][2]byte{any, any}, true
	case c == 0xf0:
		return [][2]byte{{0x90, 0xbf}, any, any}, true
	case c >= 0xf1 && c <= 0xf3:
		return [][2]byte{any, any, any}, true
	case c == 0xf4:
		return [][2]byte{{0x80, 0x8f}, any, any}, true
	}
	return nil, false
}

func (m *machine) within(b []byte, at int) (api.Errno, int) {
	c := b[at]
	switch {
	case m.state == "character":
		if c < m.rest[0][0] || c > m.rest[0][1] {
			return api.ErrJson, m.from
		}
		if m.rest = m.rest[1:]; len(m.rest) == 0 {
			m.state = "text"
		}
	case m.state == "escape" && c == 'u':
		m.state, m.code, m.many = "hex", 0, 0
	case m.state == "escape" && m.half >= 0:
		return api.ErrJson, m.half
	case m.state == "escape" && has(`"\/bfnrt`, c):
		m.state = "text"
	case m.state == "escape":
		return api.ErrJson, at
	case m.state == "hex":
		return m.hex(c, at)
	case c == '\\':
		m.from, m.state = at, "escape"
	case m.half >= 0:
		return api.ErrJson, m.half
	case c == '"':
		return m.ends(b, at)
	case c < 0x20:
		return api.ErrJson, at
	case c >= 0x80:
		rest, ok := utf8Rest(c)
		if !ok {
			return api.ErrJson, at
		}
		m.from, m.rest, m.state = at, rest, "character"
	}
	return api.OK, 0
}

func (m *machine) hex(c byte, at int) (api.Errno, int) {
	value := strings.IndexByte("0123456789abcdef", bytes.ToLower([]byte{c})[0])
	if value < 0 {
		return api.ErrJson, at
	}
	m.code, m.many = m.code*16+value, m.many+1
	if m.many < 4 {
		return api.OK, 0
	}
	first, second := m.code>>10 == 0xd800>>10, m.code>>10 == 0xdc00>>10
	m.state = "text"
	switch {
	case m.half >= 0 && !second:
		return api.ErrJson, m.half
	case m.half >= 0:
		m.half = -1
	case second:
		return api.ErrJson, m.from
	case first:
		m.half = m.from
	}
	return api.OK, 0
}

// ends is where a text's last " stands.
func (m *machine) ends(b []byte, at int) (api.Errno, int) {
	m.state = "behind"
	if !m.named {
		return api.OK, 0
	}
	var name string
	if err := other.Unmarshal(b[m.begin:at+1], &name); err != nil {
		panic(err)
	}
	ahead := m.names[len(m.names)-1]
	if ahead[name]++; ahead[name] > 1 {
		return api.ErrTwin, m.begin
	}
	m.state = "colon"
	return api.OK, 0
}

// library is what a right text says, by the library.
func library(b []byte) api.Json {
	d := other.NewDecoder(bytes.NewReader(b))
	d.UseNumber()
	return libraryValue(d)
}

func libraryValue(d *other.Decoder) api.Json {
	token, err := d.Token()
	if err != nil {
		panic(err)
	}
	switch x := token.(type) {
	case nil:
		return api.Json{Kind: api.JsonNull}
	case bool:
		return api.Json{Kind: map[bool]api.JsonKind{false: api.JsonFalse, true: api.JsonTrue}[x]}
	case other.Number:
		return api.Json{Kind: api.JsonNumber, Text: x.String()}
	case string:
		return api.Json{Kind: api.JsonText, Text: x}
	}
	v := api.Json{Kind: api.JsonList}
	if token == other.Delim('{') {
		v.Kind = api.JsonObject
	}
	for d.More() {
		if v.Kind == api.JsonObject {
			v.Names = append(v.Names, libraryValue(d).Text)
		}
		v.Items = append(v.Items, libraryValue(d))
	}
	d.Token()
	return v
}

// judged asks that Parse says of a text what the second opinion does.
func judged(t *testing.T, b []byte) (api.Json, bool) {
	t.Helper()
	v, why, at := Parse(b)
	wantWhy, wantAt := fed(b)
	if why != wantWhy || at != wantAt {
		t.Errorf("P10.1: %.200q: %d at %d, not %d at %d", b, why, at, wantWhy, wantAt)
		return v, false
	}
	if why != api.OK {
		if !isNothing(v) {
			t.Errorf("P2: %.200q: %v beside an error", b, v)
		}
		return v, false
	}
	if want := library(b); !equal(v, want) {
		t.Errorf("P10.1: %.200q says %v, not %v", b, v, want)
	}
	if Check(v) != api.OK {
		t.Errorf("P10.9: %.200q: %d", b, Check(v))
	}
	return v, true
}

// isNothing tells whether a value is zero.
func isNothing(v api.Json) bool {
	return v.Kind == 0 && v.Text == "" && len(v.Names) == 0 && len(v.Items) == 0
}

// equal is Same by other words.
func equal(a, b api.Json) bool {
	if a.Kind != b.Kind || a.Text != b.Text || len(a.Names) != len(b.Names) || len(a.Items) != len(b.Items) {
		return false
	}
	for i := range a.Names {
		if a.Names[i] != b.Names[i] {
			return false
		}
	}
	for i := range a.Items {
		if !equal(a.Items[i], b.Items[i]) {
			return false
		}
	}
	return true
}

package json

import (
	"strings"
	"unicode/utf8"

	"thicket/api"
)

const decimals = "0123456789"

// letters stand behind a \ , said is what they say, in the same order; the last one is only read, never written.
const (
	letters = `"\bfnrt/`
	said    = "\"\\\b\f\n\r\t/"
)

// The halves of a pair, each so many numbers from its first one on.
const (
	firstHalf = 0xd800
	otherHalf = 0xdc00
	halves    = 0x400
	pairs     = 0x10000 // the first character that a pair says
)

// parser goes through a text from the left; its functions give up at the first fault.
type parser struct {
	text []byte
	at   int
}

// failAt gives up: no JSON text goes on so.
func failAt(at int) { panic(fault{api.ErrJson, at}) }

// next is the next byte, 0 at the end: as a 0 may stand nowhere, both are refused at their place.
func (p *parser) next() byte {
	if p.at == len(p.text) {
		return 0
	}
	return p.text[p.at]
}

// takes passes the next byte, if it is one of these.
func (p *parser) takes(these string) bool {
	if p.at == len(p.text) || strings.IndexByte(these, p.text[p.at]) < 0 {
		return false
	}
	p.at++
	return true
}

// needs passes the next byte, which has to be one of these, and is it.
func (p *parser) needs(these string) byte {
	c := p.next()
	if !p.takes(these) {
		failAt(p.at)
	}
	return c
}

func (p *parser) blanks() {
	for p.takes(" \t\n\r") {
	}
}

// whole is the value that is all of the text.
func (p *parser) whole() api.Json {
	v := p.value(0)
	if p.at < len(p.text) {
		failAt(p.at)
	}
	return v
}

// value passes a value, within so many lists and objects, and the blanks around it.
func (p *parser) value(deep int) api.Json {
	p.blanks()
	v := p.bare(deep)
	p.blanks()
	return v
}

func (p *parser) bare(deep int) api.Json {
	switch p.next() {
	case 'n':
		return p.word("null", api.JsonNull)
	case 'f':
		return p.word("false", api.JsonFalse)
	case 't':
		return p.word("true", api.JsonTrue)
	case '"':
		return api.Json{Kind: api.JsonText, Text: p.quoted()}
	case '[':
		return p.list(deep)
	case '{':
		return p.object(deep)
	}
	return api.Json{Kind: api.JsonNumber, Text: p.number()}
}

func (p *parser) word(word string, kind api.JsonKind) api.Json {
	for i := range len(word) {
		p.needs(word[i : i+1])
	}
	return api.Json{Kind: kind}
}

// number passes a number, and is its text.
func (p *parser) number() string {
	from := p.at
	p.takes("-")
	if !p.takes("0") {
		p.digits()
	}
	if p.takes(".") {
		p.digits()
	}
	if p.takes("eE") {
		p.takes("+-")
		p.digits()
	}
	return string(p.text[from:p.at])
}

// digits passes one digit or more.
func (p *parser) digits() {
	p.needs(decimals)
	for p.takes(decimals) {
	}
}

// opens passes the byte with which a list or an object begins, and any blanks.
func (p *parser) opens(deep int) {
	if deep == api.MaxNest {
		panic(fault{api.ErrDeep, p.at})
	}
	p.at++
	p.blanks()
}

func (p *parser) list(deep int) api.Json {
	v := api.Json{Kind: api.JsonList}
	p.opens(deep)
	for end := p.takes("]"); !end; end = p.needs(",]") == ']' {
		v.Items = append(v.Items, p.value(deep+1))
	}
	return v
}

func (p *parser) object(deep int) api.Json {
	v := api.Json{Kind: api.JsonObject}
	ahead := map[string]struct{}{}
	p.opens(deep)
	for end := p.takes("}"); !end; end = p.needs(",}") == '}' {
		name := p.name(ahead)
		p.needs(":")
		v.Names = append(v.Names, name)
		v.Items = append(v.Items, p.value(deep+1))
	}
	return v
}

// name passes a name and the blanks around it; it must be none of those ahead, and is one of them from now on.
func (p *parser) name(ahead map[string]struct{}) string {
	p.blanks()
	from := p.at
	name := p.quoted()
	if _, twice := ahead[name]; twice {
		panic(fault{api.ErrTwin, from})
	}
	ahead[name] = struct{}{}
	p.blanks()
	return name
}

// quoted passes a text, and is what it says.
func (p *parser) quoted() string {
	var b strings.Builder
	p.needs(`"`)
	for {
		switch c := p.next(); {
		case c == '"':
			p.at++
			return b.String()
		case c == '\\':
			b.WriteRune(p.escape())
		default:
			b.WriteRune(p.character())
		}
	}
}

// character passes one that stands as it is.
func (p *parser) character() rune {
	r, n := utf8.DecodeRune(p.text[p.at:])
	if r < ' ' || r == utf8.RuneError && n <= 1 { // n is 0 at the end, 1 where it is no right UTF-8
		failAt(p.at)
	}
	p.at += n
	return r
}

// escape passes an escape, and is the character that it says.
func (p *parser) escape() rune {
	from := p.at
	p.at++
	if p.takes("u") {
		return p.coded(from)
	}
	return rune(said[strings.IndexByte(letters, p.needs(letters))])
}

// coded is the character that is said by its number, where the escape begins at from and \u is passed.
func (p *parser) coded(from int) rune {
	r := p.hex()
	switch {
	case isHalf(r, firstHalf):
		return p.paired(from, r)
	case isHalf(r, otherHalf):
		failAt(from)
	}
	return r
}

// paired is the character of a pair whose first half begins at from and is passed. Where the text ends ahead of the other half, that is the fault; where something else stands, the first half is.
func (p *parser) paired(from int, first rune) rune {
	for _, c := range []string{`\`, "u"} {
		if p.at < len(p.text) && !p.takes(c) {
			failAt(from)
		}
	}
	other := p.hex()
	if !isHalf(other, otherHalf) {
		failAt(from)
	}
	return pairs + (first-firstHalf)*halves + (other - otherHalf)
}

func isHalf(r, from rune) bool { return r >= from && r < from+halves }

// hex passes four hexadecimal digits, and is what they say.
func (p *parser) hex() rune {
	var r rune
	for range 4 {
		r = r*16 + hexValue(p.needs("0123456789abcdefABCDEF"))
	}
	return r
}

func hexValue(c byte) rune {
	switch {
	case c >= 'a':
		return rune(c - 'a' + 10)
	case c >= 'A':
		return rune(c - 'A' + 10)
	}
	return rune(c - '0')
}

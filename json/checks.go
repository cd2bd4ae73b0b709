package json

import (
	"unicode/utf8"

	"thicket/api"
)

// checkDepth gives up, if a list or an object lies too deep, where so many are around the value. Items are gone through of every kind, but only lists and objects count.
func checkDepth(v api.Json, deep int) {
	if v.Kind == api.JsonList || v.Kind == api.JsonObject {
		deep++
	}
	if deep > api.MaxNest {
		panic(fault{why: api.ErrDeep})
	}
	for _, item := range v.Items {
		checkDepth(item, deep)
	}
}

// checkFields gives up, if a value is not as its kind has it, twins apart.
func checkFields(v api.Json) {
	if !isPlain(v) {
		panic(fault{why: api.ErrJson})
	}
	for _, item := range v.Items {
		checkFields(item)
	}
}

// isPlain tells whether a value has the fields of its kind alone, and these are right; its items are not looked at.
func isPlain(v api.Json) bool {
	switch v.Kind {
	case api.JsonNull, api.JsonFalse, api.JsonTrue:
		return v.Text == "" && isSingle(v)
	case api.JsonNumber:
		return isNumber(v.Text) && isSingle(v)
	case api.JsonText:
		return utf8.ValidString(v.Text) && isSingle(v)
	case api.JsonList:
		return v.Text == "" && len(v.Names) == 0
	case api.JsonObject:
		return v.Text == "" && len(v.Names) == len(v.Items) && areTexts(v.Names)
	}
	return false
}

// isSingle tells whether there is nothing within a value.
func isSingle(v api.Json) bool { return len(v.Names) == 0 && len(v.Items) == 0 }

func areTexts(l []string) bool {
	for _, s := range l {
		if !utf8.ValidString(s) {
			return false
		}
	}
	return true
}

// isNumber tells it by the parser, so that there is one meaning of what a number is.
func isNumber(s string) bool {
	p := parser{text: []byte(s)}
	f := caught(func() { p.number() })
	return f.why == api.OK && p.at == len(s)
}

// checkNames gives up, if a name stands twice in an object.
func checkNames(v api.Json) {
	if hasTwins(v.Names) {
		panic(fault{why: api.ErrTwin})
	}
	for _, item := range v.Items {
		checkNames(item)
	}
}

func hasTwins(l []string) bool {
	if len(l) < 2 {
		return false // most values have no names, and need no map
	}
	ahead := make(map[string]struct{}, len(l))
	for _, s := range l {
		ahead[s] = struct{}{}
	}
	return len(ahead) < len(l)
}

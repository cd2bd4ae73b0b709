package dumps

import (
	"strconv"
	"strings"

	"thicket/api"
)

// fault is what a function gives up with: an error, and its place.
type fault struct {
	why   api.Errno
	place string
}

// caught does what may give up, and is the fault with which it did.
func caught(do func()) (f fault) {
	defer func() {
		switch r := recover().(type) {
		case nil:
		case fault:
			f = r
		default:
			panic(r)
		}
	}()
	do()
	return fault{}
}

// said is words with a blank between.
func said(words ...string) string { return strings.Join(words, " ") }

// path is a place's steps, one behind the other.
func path(steps ...string) string { return strings.Join(steps, "") }

// item is the step to a list's item.
func item(k int) string { return "[" + strconv.Itoa(k) + "]" }

// named is the step to an object's item, and any steps behind it.
func named(name string, behind ...string) string { return "." + name + path(behind...) }

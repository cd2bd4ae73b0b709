package json

import "thicket/api"

// fault is what a function gives up with: an error, and its place in the text.
type fault struct {
	why api.Errno
	at  int
}

// caught does what may give up, and is the fault with which it did.
func caught(do func()) (f fault) {
	defer func() {
		switch r := recover().(type) {
		case nil:
		case fault:
			f = r
		default:
			panic(r)
		}
	}()
	do()
	return fault{}
}

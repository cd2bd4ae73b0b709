package foreign

import "thicket/api"

// fault is what a function gives up with: an error, and the number of its row.
type fault struct {
	why api.Errno
	row int
}

// failAt gives up: no model text has such a row.
func failAt(row int) { panic(fault{api.ErrForeign, row}) }

// caught does what may give up, and is the fault with which it did.
func caught(do func()) (f fault) {
	defer func() {
		switch r := recover().(type) {
		case nil:
		case fault:
			f = r
		default:
			panic(r)
		}
	}()
	do()
	return fault{}
}

package front

import (
	"strconv"

	"thicket/api"
)

// The exit codes.
const (
	exitDone      = iota
	exitFile      // a file is at fault
	exitArguments // an argument is, or how many files there are
	exitCall      // a call has an error
)

// fault is what a function gives up with: the words of the line that is written then, and the exit code.
type fault struct {
	words []string
	exit  int
}

func giveUp(exit int, words ...string) {
	panic(fault{append([]string{"fault"}, words...), exit})
}

// caught does what may give up, and is the fault with which it did.
func caught(do func()) (f fault) {
	defer func() {
		switch r := recover().(type) {
		case nil:
		case fault:
			f = r
		default:
			panic(r)
		}
	}()
	do()
	return fault{}
}

func wrongArgument(i int) { giveUp(exitArguments, "argument", strconv.Itoa(i)) }

// wrongFile gives up on a file with an error, and where in it that is.
func wrongFile(i int, why api.Errno, where ...string) {
	giveUp(exitFile, append([]string{"file", strconv.Itoa(i), "code", number(why)}, where...)...)
}

// must gives up, if a call has an error; where it may tell.
func must(why api.Errno, where ...string) {
	if why != api.OK {
		giveUp(exitCall, append([]string{"code", number(why)}, where...)...)
	}
}

func number(why api.Errno) string { return strconv.Itoa(int(why)) }

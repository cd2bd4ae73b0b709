package fixed

import (
	"strings"

	"thicket/api"
)

// places is how many digits behind the point say whole millionths.
const places = 6

// mostDigits is how many digits an amount has at most; so many always go into a word.
const mostDigits = 19

// farPower stands for every greater power: with MaxNumber bytes of digits it is out of all bounds.
const farPower = 1 << 20

// decimal is a decimal text, cut into its parts.
type decimal struct {
	neg         bool
	whole, part string // digits ahead of the point and behind it
	power       int
}

// reader goes through a text.
type reader struct {
	text string
	at   int
}

// takes passes one byte, if it is one of these.
func (r *reader) takes(these string) bool {
	if r.at == len(r.text) || strings.IndexByte(these, r.text[r.at]) < 0 {
		return false
	}
	r.at++
	return true
}

// digits passes digits, as many as there are, but not more than most.
func (r *reader) digits(most int) string {
	from := r.at
	for r.at-from < most && r.takes("0123456789") {
	}
	return r.text[from:r.at]
}

// decimal passes a decimal without a power, with at most so many digits behind the point; false, if it can't go on.
func (r *reader) decimal(most int) (decimal, bool) {
	d := decimal{neg: r.takes("-")}
	d.whole = r.digits(len(r.text))
	if d.whole == "" || !r.takes(".") {
		return d, d.whole != ""
	}
	d.part = r.digits(most)
	return d, d.part != ""
}

// power passes a power of ten, if there is one; false, if it can't go on.
func (r *reader) power() (int, bool) {
	if !r.takes("eE") {
		return 0, true
	}
	neg := r.takes("-")
	if !neg {
		r.takes("+")
	}
	digits := r.digits(len(r.text))
	n := 0
	for _, c := range digits {
		n = min(n*10+int(c-'0'), farPower)
	}
	if neg {
		n = -n
	}
	return n, digits != ""
}

// told is what is answered of a decimal, if the reader got through to the text's end.
func (d decimal) told(r reader, ok bool) (int64, api.Errno, int) {
	if !ok || r.at < len(r.text) {
		return 0, api.ErrFixed, r.at
	}
	v, why := d.millionths()
	return v, why, 0
}

// millionths is a decimal's number of millionths, rounded.
func (d decimal) millionths() (int64, api.Errno) {
	digits := strings.TrimLeft(d.whole+d.part, "0")
	size := len(digits) - len(d.part) + d.power + places // of the whole millionths, in digits
	switch {
	case digits == "" || size < 0:
		return 0, api.OK
	case size > mostDigits:
		return 0, api.ErrBig
	}
	digits += strings.Repeat("0", max(0, size-len(digits)))
	n := uint64(0)
	for _, c := range digits[:size] {
		n = n*10 + uint64(c-'0')
	}
	// Without noughts at their end, digits behind a point stand in the order of texts.
	rest := strings.TrimRight(digits[size:], "0")
	if rest > "5" || rest == "5" && n%2 == 1 {
		n++
	}
	return signed(d.neg, n)
}

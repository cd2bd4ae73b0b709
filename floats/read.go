package floats

import (
	"strings"

	"thicket/api"
	"thicket/limbs"
)

// farPower stands for every greater power: with MaxNumber bytes of digits it is out of all bounds.
const farPower = 1 << 20

// farDigits is more digits, decimal or binary, than any number of either format has ahead of the point, or noughts behind it.
const farDigits = 2000

// spelling is a decimal or hexadecimal text, cut into its parts.
type spelling struct {
	neg, hex    bool
	whole, part string // digits ahead of the point and behind it
	powerNeg    bool
	power       string
}

// read is the bits of the number that a text says.
func (f format) read(s string) (uint64, api.Errno, int) {
	if len(s) > api.MaxNumber {
		return 0, api.ErrLong, 0
	}
	switch s {
	case "nan":
		return f.nan(), api.OK, 0
	case "inf":
		return f.infinity(), api.OK, 0
	case "-inf":
		return f.infinity() | f.signBit(), api.OK, 0
	}
	t, at, ok := cut(s)
	if !ok {
		return 0, api.ErrFloat, max(at, alike(s, "nan"), alike(s, "inf"), alike(s, "-inf"))
	}
	w := f.amount(t)
	if t.neg {
		w |= f.signBit()
	}
	return w, api.OK, 0
}

// cut cuts a text into its parts; if it is none, it tells how far it could be one.
func cut(s string) (spelling, int, bool) {
	t := spelling{neg: strings.HasPrefix(s, "-")}
	at := 0
	if t.neg {
		at++
	}
	// Without the x all that could be hexadecimal could be decimal too.
	if t.hex = strings.HasPrefix(s[at:], "0x"); t.hex {
		at += 2
	}
	n := digitRun(s[at:], t.hex)
	t.whole, at = s[at:at+n], at+n
	if n == 0 {
		return t, at, false
	}
	if strings.HasPrefix(s[at:], ".") {
		at++
		n = digitRun(s[at:], t.hex)
		t.part, at = s[at:at+n], at+n
		if n == 0 {
			return t, at, false
		}
	}
	return t.cutPower(s, at)
}

// cutPower cuts what stands behind the digits; a hexadecimal must have a power.
func (t spelling) cutPower(s string, at int) (spelling, int, bool) {
	marks := "eE"
	if t.hex {
		marks = "p"
	}
	if at == len(s) || strings.IndexByte(marks, s[at]) < 0 {
		return t, at, at == len(s) && !t.hex
	}
	at++
	if at < len(s) && (s[at] == '+' || s[at] == '-') {
		t.powerNeg = s[at] == '-'
		at++
	}
	n := digitRun(s[at:], false)
	t.power, at = s[at:at+n], at+n
	return t, at, n > 0 && at == len(s)
}

// digitRun is with how many digits a text begins.
func digitRun(s string, hex bool) int {
	for i, c := range s {
		if d := digitOf(c); d < 0 || d > 9 && !hex {
			return i
		}
	}
	return len(s)
}

// digitOf is what a hexadecimal digit says, -1 of what is none.
func digitOf(c rune) int {
	switch {
	case c >= '0' && c <= '9':
		return int(c - '0')
	case c >= 'a' && c <= 'f':
		return int(c-'a') + 10
	case c >= 'A' && c <= 'F':
		return int(c-'A') + 10
	}
	return -1
}

// alike is how many bytes two texts have in common at their beginnings.
func alike(s, t string) int {
	n := 0
	for n < len(s) && n < len(t) && s[n] == t[n] {
		n++
	}
	return n
}

// amount is the number nearest to what a text says, its sign apart.
func (f format) amount(t spelling) uint64 {
	worth := 1 // of a digit, in powers of the base
	if t.hex {
		worth = 4
	}
	digits := strings.TrimLeft(t.whole+t.part, "0")
	power := t.powerNumber() - worth*len(t.part)
	short := strings.TrimRight(digits, "0")
	power += worth * (len(digits) - len(short))
	size := worth*len(short) + power
	switch {
	case short == "" || size < -farDigits:
		return 0
	case size > farDigits:
		return f.infinity()
	case power < 0:
		return f.nearest(t.natural(short), t.basePower(-power))
	}
	return f.nearest(limbs.Mul(t.natural(short), t.basePower(power)), limbs.From(1))
}

func (t spelling) powerNumber() int {
	n := 0
	for _, c := range t.power {
		n = min(n*10+int(c-'0'), farPower)
	}
	if t.powerNeg {
		return -n
	}
	return n
}

// natural is what digits say as a whole number.
func (t spelling) natural(digits string) []uint32 {
	if !t.hex {
		n, _, _ := limbs.Read(digits)
		return n
	}
	n := make([]uint32, len(digits)/8+1)
	for i := range len(digits) {
		n[i/8] |= uint32(digitOf(rune(digits[len(digits)-1-i]))) << (4 * (i % 8))
	}
	return n
}

// basePower is a power of ten, of a hexadecimal one of two.
func (t spelling) basePower(n int) []uint32 {
	if t.hex {
		p, _ := limbs.Up(limbs.From(1), n)
		return p
	}
	p, _ := limbs.Pow(limbs.From(10), n)
	return p
}

package limbs

import (
	"strings"

	"thicket/api"
)

// Over is a quotient; Whole, that of a number; Plus, Minus, Times, By: as quotients have it; Order is -1, 0 or 1.
func Over(neg bool, num, den []uint32) (api.Ratio, api.Errno) {
	num, den = trim(num), trim(den)
	if len(den) == 0 {
		return api.Ratio{}, api.ErrZero
	}
	if len(num) == 0 {
		return api.Ratio{Den: []uint32{1}}, api.OK
	}
	common := divisor(num, den)
	num, _ = divide(num, common)
	den, _ = divide(den, common)
	return api.Ratio{Neg: neg, Num: num, Den: den}, api.OK
}

func Whole(n int64) api.Ratio {
	amount := uint64(n)
	if n < 0 {
		amount = -amount
	}
	return api.Ratio{Neg: n < 0, Num: From(amount), Den: []uint32{1}}
}

func Plus(a, b api.Ratio) (api.Ratio, api.Errno) {
	left, right := crossed(a, b)
	den := Mul(a.Den, b.Den)
	if a.Neg == b.Neg {
		return Over(a.Neg, sum(left, right), den)
	}
	if compare(left, right) >= 0 {
		return Over(a.Neg, difference(left, right), den)
	}
	return Over(b.Neg, difference(right, left), den)
}

func Minus(a, b api.Ratio) (api.Ratio, api.Errno) {
	b.Neg = !b.Neg
	return Plus(a, b)
}

func Times(a, b api.Ratio) (api.Ratio, api.Errno) {
	return Over(a.Neg != b.Neg, Mul(a.Num, b.Num), Mul(a.Den, b.Den))
}

func By(a, b api.Ratio) (api.Ratio, api.Errno) {
	// b is turned over below: then a nought of its Den would be no fault.
	if isNought(b.Den) {
		return api.Ratio{}, api.ErrZero
	}
	return Over(a.Neg != b.Neg, Mul(a.Num, b.Den), Mul(a.Den, b.Num))
}

func Order(a, b api.Ratio) (int, api.Errno) {
	if isNought(a.Den) || isNought(b.Den) {
		return 0, api.ErrZero
	}
	aBelow, bBelow := below(a), below(b)
	left, right := crossed(a, b)
	switch {
	case aBelow != bBelow:
		return sign(aBelow), api.OK
	case aBelow:
		return compare(right, left), api.OK
	}
	return compare(left, right), api.OK
}

// Write is a quotient as num/den, or as num alone where den is 1; Decimal, it with so many digits behind the point, rounded to the nearest, ties to even.
func Write(a api.Ratio) (string, api.Errno) {
	a, why := Over(a.Neg, a.Num, a.Den)
	if why != api.OK {
		return "", why
	}
	s := Print(a.Num)
	if a.Neg {
		s = "-" + s
	}
	if compare(a.Den, []uint32{1}) != 0 {
		s += "/" + Print(a.Den)
	}
	return s, api.OK
}

func Decimal(a api.Ratio, digits int) (string, api.Errno) {
	if isNought(a.Den) {
		return "", api.ErrZero
	}
	if digits < 0 || digits > api.MaxPlaces {
		return "", api.ErrRange
	}
	n := rounded(product(trim(a.Num), power([]uint32{10}, digits)), trim(a.Den))
	s := Print(n)
	s = strings.Repeat("0", max(0, digits+1-len(s))) + s
	if digits > 0 {
		s = s[:len(s)-digits] + "." + s[len(s)-digits:]
	}
	if a.Neg && len(n) > 0 {
		s = "-" + s
	}
	return s, api.OK
}

// rounded is the natural nearest to a by b, of two the even one.
func rounded(a, b []uint32) []uint32 {
	q, r := divide(a, b)
	if c := compare(sum(r, r), b); c > 0 || c == 0 && Bit(q, 0) {
		return sum(q, []uint32{1})
	}
	return q
}

// crossed are two quotients' Nums over one Den, the product of theirs.
func crossed(a, b api.Ratio) ([]uint32, []uint32) {
	return Mul(a.Num, b.Den), Mul(b.Num, a.Den)
}

func isNought(a []uint32) bool { return len(trim(a)) == 0 }

// below tells whether a quotient is below nought: a nought is not, whatever its sign.
func below(a api.Ratio) bool { return a.Neg && !isNought(a.Num) }

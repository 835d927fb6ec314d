// Package ratio is layer 1, rational numbers: see shared/doc/01-ratio.md.
package ratio

import (
	"cmp"

	"foliot/api"
)

// Valid tells whether a is a ratio: in lowest terms and within the limits.
func Valid(a api.Ratio) bool {
	if a.Den < 1 || a.Den > api.MaxRatio || a.Num < -api.MaxRatio || a.Num > api.MaxRatio {
		return false
	}
	return commonDivisor(magnitude(a.Num), magnitude(a.Den)) == 1
}

// Of returns the ratio of an integer.
func Of(n int64) (api.Ratio, api.Errno) { return Make(n, 1) }

// Make returns the ratio of num / den.
func Make(num, den int64) (api.Ratio, api.Errno) {
	if den == 0 {
		return api.Ratio{}, api.ErrArg
	}
	n, d := magnitude(num), magnitude(den)
	g := commonDivisor(n, d)
	n, d = n/g, d/g
	if n > api.MaxRatio || d > api.MaxRatio {
		return api.Ratio{}, api.ErrRange
	}
	if (num < 0) != (den < 0) {
		return api.Ratio{Num: -int64(n), Den: int64(d)}, api.OK
	}
	return api.Ratio{Num: int64(n), Den: int64(d)}, api.OK
}

// Add returns a + b.
func Add(a, b api.Ratio) (api.Ratio, api.Errno) {
	if !Valid(a) || !Valid(b) {
		return api.Ratio{}, api.ErrArg
	}
	// A product of two parts is below 2^62, so that the sum of two of them fits.
	return Make(a.Num*b.Den+b.Num*a.Den, a.Den*b.Den)
}

// Sub returns a - b.
func Sub(a, b api.Ratio) (api.Ratio, api.Errno) {
	if !Valid(a) || !Valid(b) {
		return api.Ratio{}, api.ErrArg
	}
	return Make(a.Num*b.Den-b.Num*a.Den, a.Den*b.Den)
}

// Mul returns a times b.
func Mul(a, b api.Ratio) (api.Ratio, api.Errno) {
	if !Valid(a) || !Valid(b) {
		return api.Ratio{}, api.ErrArg
	}
	return Make(a.Num*b.Num, a.Den*b.Den)
}

// Div returns a divided by b.
func Div(a, b api.Ratio) (api.Ratio, api.Errno) {
	if !Valid(a) || !Valid(b) || b.Num == 0 {
		return api.Ratio{}, api.ErrArg
	}
	return Make(a.Num*b.Den, a.Den*b.Num)
}

// Neg returns -a. It is never out of range, as the limits are the same on both sides of 0.
func Neg(a api.Ratio) (api.Ratio, api.Errno) {
	if !Valid(a) {
		return api.Ratio{}, api.ErrArg
	}
	return api.Ratio{Num: -a.Num, Den: a.Den}, api.OK
}

// Cmp returns -1, 0 or 1 if a is less than b, equal to b, or greater.
func Cmp(a, b api.Ratio) (int, api.Errno) {
	if !Valid(a) || !Valid(b) {
		return 0, api.ErrArg
	}
	return cmp.Compare(a.Num*b.Den, b.Num*a.Den), api.OK
}

// Floor returns the greatest integer that is at most a.
func Floor(a api.Ratio) (int64, api.Errno) {
	if !Valid(a) {
		return 0, api.ErrArg
	}
	return roundedDown(a.Num, a.Den), api.OK
}

// Ceil returns the least integer that is at least a.
func Ceil(a api.Ratio) (int64, api.Errno) {
	if !Valid(a) {
		return 0, api.ErrArg
	}
	return -roundedDown(-a.Num, a.Den), api.OK
}

// Middle returns the simplest number between a and b.
func Middle(a, b api.Ratio) (api.Ratio, api.Errno) {
	order, e := Cmp(a, b)
	if e != api.OK {
		return api.Ratio{}, e
	}
	if order >= 0 {
		return api.Ratio{}, api.ErrArg
	}
	return Make(simplest(a.Num, a.Den, b.Num, b.Den))
}

// simplest returns numerator and denominator of the simplest number between
// p/q and r/s, where p/q < r/s, q > 0, and s is 0 if there is no upper end.
// Nothing overflows: all arguments stay within MaxRatio, and the denominator of
// the result is at most q + s, as (p+r)/(q+s) lies between as well.
func simplest(p, q, r, s int64) (int64, int64) {
	low := roundedDown(p, q)
	if (low+1)*s < r {
		return low + 1, 1
	}
	// What the numbers between have above low is a proper fraction. Of positive
	// numbers the simplest one has the least numerator too, so that the inverse
	// of the simplest one is the simplest of the inverses, which are above 1.
	den, num := simplest(s, r-low*s, q, p-low*q)
	return low*den + num, den
}

// roundedDown returns num / den rounded down, for a positive den.
func roundedDown(num, den int64) int64 {
	if num%den < 0 {
		return num/den - 1
	}
	return num / den
}

// magnitude returns the absolute value, which for -2^63 only an unsigned number holds.
func magnitude(n int64) uint64 {
	if n < 0 {
		return -uint64(n)
	}
	return uint64(n)
}

// commonDivisor returns the greatest number that divides both, where b is not 0.
func commonDivisor(a, b uint64) uint64 {
	var divide func(a, b uint64) uint64
	divide = func(a, b uint64) uint64 {
		if b == 0 {
			return a
		}
		return divide(b, a%b)
	}
	return divide(a, b)
}

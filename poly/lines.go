package poly

import (
	"cmp"
	"slices"

	"foliot/api"
)

// coefficients are those of a line of any dimension: the elements behind the
// dimension, and those of coordinates that have been left out, are 0. Least
// needs one more coordinate than there are dimensions.
type coefficients [api.MaxAxes + 1]int64

// line is an api.Line whose coefficients can be copied and compared.
type line struct {
	a      coefficients
	b      int64
	strict bool
}

// fit tells whether these numbers may stand in a line.
func fit(numbers ...int64) bool {
	return !slices.ContainsFunc(numbers, func(x int64) bool { return x < -api.MaxCoef || x > api.MaxCoef })
}

func isValid(n int, x api.Line) bool { return len(x.A) == n && fit(x.A...) && fit(x.B) }

// lineOf returns a valid line in memory of its own.
func lineOf(x api.Line) line {
	y := line{b: x.B, strict: x.Strict}
	copy(y.a[:], x.A)
	return y
}

func lines(l []api.Line) []line {
	made := make([]line, len(l))
	for k, x := range l {
		made[k] = lineOf(x)
	}
	return made
}

// lists returns lines as those of package api. Of the coefficients of each one,
// in memory of its own, those stay that choose returns.
func lists(l []line, choose func(a []int64) []int64) []api.Line {
	made := make([]api.Line, len(l))
	for k, x := range l {
		made[k] = api.Line{A: choose(slices.Clone(x.a[:])), B: x.b, Strict: x.strict}
	}
	return made
}

func (x line) fits() bool { return fit(x.a[:]...) && fit(x.b) }

// limit numbers what B and Strict say, as limits (2) are numbered: the lesser
// number is the tighter one, and 0 meets those above 0.
func (x line) limit() int64 {
	if x.strict {
		return 2 * x.b
	}
	return 2*x.b + 1
}

func (x line) times(factor int64) line {
	for k := range x.a {
		x.a[k] *= factor
	}
	x.b *= factor
	return x
}

func (x line) plus(y line) line {
	for k := range x.a {
		x.a[k] += y.a[k]
	}
	x.b += y.b
	x.strict = x.strict || y.strict
	return x
}

// opposite returns the line that those points meet that do not meet x.
func (x line) opposite() line {
	y := x.times(-1)
	y.strict = !x.strict
	return y
}

// lowest returns the line in lowest terms.
func (x line) lowest() line {
	divisor := x.b
	for _, a := range x.a {
		divisor = commonDivisor(divisor, a)
	}
	if divisor == 0 {
		return x
	}
	for k := range x.a {
		x.a[k] /= divisor
	}
	x.b /= divisor
	return x
}

// commonDivisor returns the greatest number that divides both, 0 if both are 0.
// No number of a line or of a sum is -2^63, which has no absolute value.
func commonDivisor(a, b int64) int64 {
	for b != 0 {
		a, b = b, a%b
	}
	return max(a, -a)
}

// tidy returns the tidy list of lines that fit, in memory of its own.
func tidy(l []line) []line {
	var kept []line
	for _, x := range l {
		if x = x.lowest(); x.a != (coefficients{}) {
			kept = append(kept, x)
		} else if x.limit() <= 0 {
			return []line{{strict: true}} // 0 is less than 0: no point meets this list
		}
	}
	slices.SortFunc(kept, func(x, y line) int {
		return cmp.Or(slices.Compare(x.a[:], y.a[:]), cmp.Compare(x.limit(), y.limit()))
	})
	return slices.CompactFunc(kept, func(x, y line) bool { return x.a == y.a })
}

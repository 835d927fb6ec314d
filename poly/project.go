package poly

import (
	"iter"

	"foliot/api"
)

// pairs yields each line that bounds a coordinate from above with each one that
// bounds it from below.
func pairs(above, below []line) iter.Seq2[line, line] {
	return func(yield func(x, y line) bool) {
		for _, x := range above {
			for _, y := range below {
				if !yield(x, y) {
					return
				}
			}
		}
	}
}

// sum returns the least multiples of x and y that add up to a line without the
// coordinate i, added up. Nothing overflows: a product of two numbers of lines
// is below 2^62.
func sum(x, y line, i int) line {
	divisor := commonDivisor(x.a[i], y.a[i])
	return x.times(-y.a[i] / divisor).plus(y.times(x.a[i] / divisor)).lowest()
}

// leaveOut returns the tidy list of the projection that has no coordinate i: its
// coefficients are 0 everywhere.
func leaveOut(l []line, i int) []line {
	var above, below, left []line
	for _, x := range l {
		switch {
		case x.a[i] > 0:
			above = append(above, x)
		case x.a[i] < 0:
			below = append(below, x)
		default:
			left = append(left, x)
		}
	}
	if len(left)+len(above)*len(below) > api.MaxLines {
		panic(api.ErrLong)
	}
	for x, y := range pairs(above, below) {
		s := sum(x, y, i)
		if !s.fits() {
			panic(api.ErrRange)
		}
		left = append(left, s)
	}
	return tidy(left)
}

// shadows returns for each i up to n the tidy list that is left when the
// coordinates n - 1 down to i are left out.
func shadows(n int, l []line) [][]line {
	left := make([][]line, n+1)
	left[n] = tidy(l)
	for i := n - 1; i >= 0; i-- {
		left[i] = leaveOut(left[i+1], i)
	}
	return left
}

package poly

import (
	"slices"

	"foliot/api"
	"foliot/ratio"
)

// whole returns the ratio of a number of a line.
func whole(x int64) api.Ratio { return api.Ratio{Num: x, Den: 1} }

func isPoint(n int, p []api.Ratio) bool {
	return len(p) == n && !slices.ContainsFunc(p, func(x api.Ratio) bool { return !ratio.Valid(x) })
}

// at returns the sum of the coefficients times the first coordinates.
func (x line) at(p []api.Ratio) api.Ratio {
	sum := whole(0)
	for k, value := range p {
		sum = must(ratio.Add(sum, must(ratio.Mul(whole(x.a[k]), value))))
	}
	return sum
}

// isMet tells whether a point meets the line.
func (x line) isMet(p []api.Ratio) bool {
	order := must(ratio.Cmp(x.at(p), whole(x.b)))
	return order < 0 || order == 0 && !x.strict
}

// has tells whether a point meets all lines. It looks at all of them, as an
// error counts wherever it is met.
func has(l []line, p []api.Ratio) bool {
	all := true
	for _, x := range l {
		met := x.isMet(p)
		all = all && met
	}
	return all
}

// end is one of an interval, if it has an end on that side.
type end struct {
	value        api.Ratio
	exists, open bool
}

// ends returns those of the coordinate i, when the ones before it are chosen.
func ends(l []line, i int, before []api.Ratio) (lower, upper end) {
	// Of several ends on one side the one counts that leaves less.
	collect := func(counts *end, side int) func(x line) {
		return func(x line) {
			distance := must(ratio.Sub(whole(x.b), x.at(before)))
			found := end{value: must(ratio.Div(distance, whole(x.a[i]))), exists: true, open: x.strict}
			if !counts.exists {
				*counts = found
				return
			}
			order := side * must(ratio.Cmp(found.value, counts.value))
			if order > 0 || order == 0 && found.open {
				*counts = found
			}
		}
	}
	below, above := collect(&lower, 1), collect(&upper, -1)
	for _, x := range l {
		switch {
		case x.a[i] < 0:
			below(x)
		case x.a[i] > 0:
			above(x)
		}
	}
	return lower, upper
}

// between returns the number that is chosen of an interval.
func between(lower, upper end) api.Ratio {
	switch {
	case lower.exists && !lower.open:
		return lower.value
	case lower.exists && upper.exists:
		return must(ratio.Middle(lower.value, upper.value))
	case lower.exists:
		return must(ratio.Add(lower.value, whole(1)))
	case upper.exists && !upper.open:
		return upper.value
	case upper.exists:
		return must(ratio.Sub(upper.value, whole(1)))
	}
	return whole(0)
}

// point returns the one that is chosen of a set with these shadows.
func point(left [][]line) []api.Ratio {
	if isEmpty(left) {
		panic(api.ErrNone)
	}
	var p []api.Ratio
	for i, l := range left[1:] {
		p = append(p, between(ends(l, i, p)))
	}
	return p
}

// infimum returns the lower end of the sum of a[i] times the coordinate i, which
// is one more coordinate of the lines and the only one that is not left out.
func infimum(n int, l []line, a []int64) end {
	sum := lineOf(api.Line{A: a})
	sum.a[n] = -1
	left := shadows(n, append(l, sum, sum.times(-1)))[0]
	// The ends need not be compared: if there is no point, the lines of l by
	// themselves have come down to the one that nothing meets, the only one left.
	lower, _ := ends(left, n, nil)
	if !lower.exists {
		panic(api.ErrNone)
	}
	return lower
}

package poly

import (
	"slices"

	"foliot/api"
)

// isEmpty tells whether a line is left when all coordinates are left out.
func isEmpty(left [][]line) bool { return len(left[0]) > 0 }

// implies tells whether no point of l meets the opposite of x.
func implies(n int, l []line, x line) bool {
	return isEmpty(shadows(n, append(slices.Clone(l), x.opposite())))
}

// minus returns for each line of b, if there are any, the points of a that do
// not meet it but all lines of b before it.
func minus(n int, a, b []line) [][]api.Line {
	var parts [][]api.Line
	rest := slices.Clone(a)
	for _, x := range b {
		if len(rest) == api.MaxLines {
			panic(api.ErrLong)
		}
		left := shadows(n, append(slices.Clone(rest), x.opposite()))
		if !isEmpty(left) {
			parts = append(parts, lists(left[n], func(a []int64) []int64 { return a[:n] }))
		}
		rest = append(rest, x)
	}
	return parts
}

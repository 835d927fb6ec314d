package widen

import (
	"slices"

	"foliot/api"
)

// This file says what the functions return in the words of the document, one
// element after the other, as plainly as possible, and finds the canonical
// matrix by itself.

// words tells what becomes of a zone that is widened by lower and upper
// constants, and counts what speaks for the cases.
type words struct {
	z         api.Zone
	low, high []int64
	decided   map[string]int
}

// constant returns that of a limit other than NoLimit; 2 c and 2 c + 1 have c.
func constant(l api.Limit) int64 {
	if l%2 == 0 {
		return int64(l / 2)
	}
	return int64((l - 1) / 2)
}

// become returns what the element (i, j) becomes, and all that speaks for one of the cases 1 to 3.
func (w words) become(i, j int) (api.Limit, string) {
	m, why := w.z.M[i*(w.z.N+1)+j], ""
	is := func(applies bool, what string) bool {
		if applies {
			why += what + ", "
		}
		return applies
	}
	fromZero := is(i == 0, "clock 0")
	first := is(m == none, "1 no limit")
	first = is(i >= 1 && w.low[i-1] == -1, "1 not compared") || first
	first = is(m != none && i >= 1 && w.low[i-1] != -1 && w.low[i-1] < constant(m), "1 above") || first
	second := is(j >= 1 && w.high[j-1] == -1, "2 not compared")
	third := is(m != none && j >= 1 && constant(m) < -w.high[j-1], "3 below")
	switch {
	case first:
		return none, why
	case second && fromZero:
		return weak(0), why
	case second:
		return none, why
	case third:
		return strict(-w.high[j-1]), why
	}
	return m, why
}

// changed returns the changed matrix.
func (w words) changed() []api.Limit {
	m := slices.Clone(w.z.M)
	for i := range w.z.N + 1 {
		for j := range w.z.N + 1 {
			if i == j {
				continue
			}
			l, why := w.become(i, j)
			m[i*(w.z.N+1)+j] = l
			w.decided[why]++
		}
	}
	return m
}

// result returns the zone of the changed matrix, and whether this was canonical.
func (w words) result() (api.Zone, bool) {
	changed := w.changed()
	m := canonical(w.z.N, changed)
	return api.Zone{N: w.z.N, M: m}, slices.Equal(m, changed)
}

// canonical returns the canonical matrix of a set that is not empty: bounds are
// added up for all ways by a third clock, until nothing changes.
func canonical(n int, m []api.Limit) []api.Limit {
	m = slices.Clone(m)
	for i := range n + 1 {
		m[i] = min(m[i], weak(0))
		m[i*(n+2)] = min(m[i*(n+2)], weak(0))
	}
	for changed := true; changed; {
		changed = false
		for i := range n + 1 {
			for j := range n + 1 {
				for k := range n + 1 {
					way := plus(m[i*(n+1)+k], m[k*(n+1)+j])
					if way < m[i*(n+1)+j] {
						m[i*(n+1)+j], changed = way, true
					}
				}
			}
		}
	}
	return m
}

// plus returns the sum of two limits, the constant of which has no range.
func plus(a, b api.Limit) api.Limit {
	if a == none || b == none {
		return none
	}
	c := constant(a) + constant(b)
	if a%2 == 0 || b%2 == 0 {
		return strict(c)
	}
	return weak(c)
}

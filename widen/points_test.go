package widen

import (
	"math/rand/v2"
	"slices"
	"testing"

	"foliot/api"
	"foliot/zone"
)

// unit is the number of parts of 1 in which the values of points are written:
// more than there are clocks, so that their fractional parts may be in any order.
const unit = 12

// scaled returns the zone of the same valuations, written in parts.
func scaled(t *testing.T, z api.Zone) api.Zone {
	t.Helper()
	m := slices.Clone(z.M)
	for place, l := range m {
		if l != none {
			m[place] = l + 2*(unit-1)*api.Limit(constant(l))
		}
	}
	s := zoneOf(z.N, m...)
	if zone.Check(s) != api.OK {
		t.Fatalf("%v is not written in parts: %v", z, s)
	}
	return s
}

// holds tells whether a point is in a zone, both of which are written alike.
func holds(z api.Zone, p []int64) bool {
	values := append([]int64{0}, p...)
	for i, x := range values {
		for j, y := range values {
			l := z.M[i*(z.N+1)+j]
			if l != none && (x-y > constant(l) || x-y == constant(l) && l%2 == 0) {
				return false
			}
		}
	}
	return true
}

// meets tells whether a valuation of z, not only one in whole parts, meets all the constraints.
func meets(z api.Zone, l ...api.Constraint) bool {
	_, e := zone.And(z, l)
	return e == api.OK
}

// isCovered tells whether v is covered by a valuation w of z, by the
// definition. All of it is written in parts, but for the constants.
func isCovered(z api.Zone, v, low, high []int64) bool {
	var covers func(rest api.Zone, x int) bool
	covers = func(rest api.Zone, x int) bool {
		if x > z.N {
			return true
		}
		value, l, u := v[x-1], low[x-1]*unit, high[x-1]*unit
		choices := [][]api.Constraint{
			{says(x, 0, weak(value)), says(0, x, weak(-value))},
			{says(0, x, strict(-l)), says(x, 0, strict(value))},
		}
		if u < value {
			choices = append(choices, []api.Constraint{says(0, x, strict(-value))})
		}
		for _, choice := range choices {
			if some, e := zone.And(rest, choice); e == api.OK && covers(some, x+1) {
				return true
			}
		}
		return false
	}
	return covers(z, 1)
}

// isAlike tells whether v is alike to a valuation w of z, by the definition:
// the valuations that are alike to v meet these constraints.
func isAlike(z api.Zone, v, k []int64) bool {
	var l []api.Constraint
	for x, value := range v {
		whole := value / unit * unit
		switch {
		case value > k[x]*unit:
			l = append(l, says(0, x+1, strict(-k[x]*unit)))
		case value == whole:
			l = append(l, says(x+1, 0, weak(whole)), says(0, x+1, weak(-whole)))
		default:
			l = append(l, says(x+1, 0, strict(whole+unit)), says(0, x+1, strict(-whole)))
		}
		for y, other := range v {
			if value > k[x]*unit || other > k[y]*unit {
				continue
			}
			between := whole - other/unit*unit
			if value%unit == other%unit {
				l = append(l, says(x+1, y+1, weak(between)))
			} else if value%unit < other%unit {
				l = append(l, says(x+1, y+1, strict(between)))
			}
		}
	}
	return meets(z, l...)
}

// somePoint returns a point of a zone, in whole parts: one clock after the
// other has one of the ends of what is possible, or a value between them.
func somePoint(g *rand.Rand, z api.Zone) ([]int64, bool) {
	var p []int64
	for x := range z.N {
		lower, upper := z.M[x+1], z.M[(x+1)*(z.N+1)]
		least, most := -constant(lower), constant(upper)
		if lower%2 == 0 {
			least++
		}
		if upper == none {
			most = least + g.Int64N(5*unit)
		} else if upper%2 == 0 {
			most--
		}
		if least > most {
			return nil, false
		}
		value := []int64{least, most, least + g.Int64N(most-least+1)}[g.IntN(3)]
		p = append(p, value)
		z, _ = zone.And(z, []api.Constraint{says(x+1, 0, weak(value)), says(0, x+1, weak(-value))})
	}
	return p, true
}

// beyond returns a part of w that does not meet one of the elements of z; if there is none, w.
func beyond(g *rand.Rand, w, z api.Zone) api.Zone {
	i, j := g.IntN(z.N+1), g.IntN(z.N+1)
	if l := z.M[i*(z.N+1)+j]; l != none {
		if part, e := zone.And(w, []api.Constraint{says(j, i, 1-l)}); e == api.OK {
			return part
		}
	}
	return w
}

// eachNewPoint calls f with points that a zone has only when it is widened.
func eachNewPoint(t *testing.T, g *rand.Rand, z, widened api.Zone, f func(p []int64)) {
	t.Helper()
	w := scaled(t, widened)
	for range 10 {
		if p, found := somePoint(g, beyond(g, w, z)); found && !holds(z, p) {
			if !holds(w, p) {
				t.Fatalf("%v is not in %v", p, w)
			}
			f(p)
		}
	}
}

// P6.4 and P6.5
func TestNewPointsAreCovered(t *testing.T) {
	covered, alike := 0, 0
	eachCase(dimensions(), []int64{1, 4, 40, 2000}, 60, func(g *rand.Rand, z api.Zone, low, high []int64) {
		parts := scaled(t, z)
		eachNewPoint(t, g, parts, bounds(t, z, low, high), func(p []int64) {
			covered++
			if !isCovered(parts, p, low, high) {
				t.Errorf("%v of %v, widened by %v and %v, is not covered", p, z, low, high)
			}
		})
		eachNewPoint(t, g, parts, greatest(t, z, low), func(p []int64) {
			alike++
			if !isAlike(parts, p, low) {
				t.Errorf("%v of %v, widened by %v, is not alike to any", p, z, low)
			}
		})
	})
	if covered < 5000 || alike < 5000 {
		t.Errorf("%d points have been covered, %d alike", covered, alike)
	}
}

// P6.4 and P6.5: with lesser constants there are points that are neither covered nor alike, so that the others could be found out.
func TestOtherPointsAreNot(t *testing.T) {
	uncovered, unlike := 0, 0
	eachCase(dimensions(), []int64{1, 4, 40}, 20, func(g *rand.Rand, z api.Zone, low, high []int64) {
		parts := scaled(t, z)
		eachNewPoint(t, g, parts, bounds(t, z, less(g, low), less(g, high)), func(p []int64) {
			if !isCovered(parts, p, low, high) {
				uncovered++
			}
			if !isAlike(parts, p, low) {
				unlike++
			}
		})
	})
	if uncovered < 500 || unlike < 500 {
		t.Errorf("%d points have not been covered, %d not alike", uncovered, unlike)
	}
}

// eachGridPoint calls f for all points of two clocks with values in quarters, below 5.
func eachGridPoint(f func(p []int64)) {
	for x := int64(0); x < 5*unit; x += unit / 4 {
		for y := int64(0); y < 5*unit; y += unit / 4 {
			f([]int64{x, y})
		}
	}
}

// P6.4 and P6.5: one in four of the small zones of two clocks, point by point.
func TestPointByPoint(t *testing.T) {
	g := rand.New(rand.NewPCG(6, 4))
	constants := func() []int64 { return []int64{g.Int64N(5) - 1, g.Int64N(5) - 1} }
	seen := 0
	eachSmallZone(func(z api.Zone) {
		if g.IntN(4) > 0 {
			return
		}
		low, high := constants(), constants()
		parts, wide, wider := scaled(t, z), scaled(t, bounds(t, z, low, high)), scaled(t, greatest(t, z, low))
		eachGridPoint(func(p []int64) {
			if holds(parts, p) {
				return
			}
			seen++
			if holds(wide, p) && !isCovered(parts, p, low, high) {
				t.Errorf("%v of %v, widened by %v and %v, is not covered", p, z, low, high)
			}
			if holds(wider, p) && !isAlike(parts, p, low) {
				t.Errorf("%v of %v, widened by %v, is not alike to any", p, z, low)
			}
		})
	})
	if seen < 10000 {
		t.Errorf("only %d points", seen)
	}
}

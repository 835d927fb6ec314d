package widen

import (
	"math"
	"math/rand/v2"
	"slices"
	"strconv"
	"strings"
	"testing"

	"foliot/api"
	"foliot/zone"
)

const (
	most  = api.MaxBound
	least = -api.MaxBound
	none  = api.NoLimit
)

func weak(c int64) api.Limit   { return api.Limit(2*c + 1) }
func strict(c int64) api.Limit { return api.Limit(2 * c) }

// says returns the constraint that the clock i minus the clock j meets l.
func says(i, j int, l api.Limit) api.Constraint { return api.Constraint{I: i, J: j, L: l} }

// zoneOf returns the zone with this matrix as it is written, valid or not.
func zoneOf(n int, m ...api.Limit) api.Zone { return api.Zone{N: n, M: m} }

// made returns the zone of constraints, which has to be there.
func made(t *testing.T, n int, l ...api.Constraint) api.Zone {
	t.Helper()
	all, _ := zone.All(n)
	z, e := zone.And(all, l)
	if e != api.OK {
		t.Fatalf("no zone of %d clocks with %v: %d", n, l, e)
	}
	return z
}

// pointZone returns the zone of one valuation.
func pointZone(t *testing.T, values ...int64) api.Zone {
	t.Helper()
	var l []api.Constraint
	for i, v := range values {
		l = append(l, says(i+1, 0, weak(v)), says(0, i+1, weak(-v)))
	}
	return made(t, len(values), l...)
}

// span returns the zone of one clock that an interval describes, as "[0,2)" or "(3,any)".
func span(text string) api.Zone {
	end := len(text) - 1
	from, to, _ := strings.Cut(text[1:end], ",")
	lower, upper := weak(-number(from)), none
	if text[0] == '(' {
		lower--
	}
	if to != "any" {
		upper = weak(number(to))
	}
	if to != "any" && text[end] == ')' {
		upper--
	}
	return zoneOf(1, 1, lower, upper, 1)
}

func number(text string) int64 {
	c, _ := strconv.ParseInt(text, 10, 64)
	return c
}

// times returns a list of n times the same constant.
func times(n int, c int64) []int64 { return slices.Repeat([]int64{c}, n) }

func checkZone(t *testing.T, got api.Zone, e api.Errno, want api.Zone, wantE api.Errno, what string, args ...any) {
	t.Helper()
	if e != wantE || got.N != want.N || !slices.Equal(got.M, want.M) {
		t.Errorf("%s%v: %v, %d; want %v, %d", what, args, got, e, want, wantE)
	}
}

func checkBounds(t *testing.T, z api.Zone, low, high []int64, want api.Zone, wantE api.Errno) {
	t.Helper()
	w, e := Bounds(z, low, high)
	checkZone(t, w, e, want, wantE, "Bounds", z, low, high)
}

func checkGreatest(t *testing.T, z api.Zone, k []int64, want api.Zone, wantE api.Errno) {
	t.Helper()
	w, e := Greatest(z, k)
	checkZone(t, w, e, want, wantE, "Greatest", z, k)
}

// bounds returns a widened zone, which has to be there.
func bounds(t *testing.T, z api.Zone, low, high []int64) api.Zone {
	t.Helper()
	w, e := Bounds(z, low, high)
	if e != api.OK {
		t.Fatalf("Bounds(%v, %v, %v): %d", z, low, high, e)
	}
	return w
}

// greatest returns a zone that is widened by one list, which has to be there.
func greatest(t *testing.T, z api.Zone, k []int64) api.Zone {
	t.Helper()
	w, e := Greatest(z, k)
	if e != api.OK {
		t.Fatalf("Greatest(%v, %v): %d", z, k, e)
	}
	return w
}

// includes tells whether b is contained in a, both of which have to be valid.
func includes(t *testing.T, a, b api.Zone) bool {
	t.Helper()
	in, e := zone.Includes(a, b)
	if e != api.OK {
		t.Fatalf("Includes(%v, %v): %d", a, b, e)
	}
	return in
}

// randomConstraint returns a constraint that half the values meet. It leaves
// room up to size, and now and then it binds both clocks.
func randomConstraint(g *rand.Rand, twice []int64, size int64) []api.Constraint {
	i, j := g.IntN(len(twice)), g.IntN(len(twice))
	difference := twice[i] - twice[j]
	c := int64(math.Ceil(float64(difference) / 2))
	switch room := g.Int64N(size + 1); {
	case g.IntN(4) == 0 && 2*c == difference:
		return []api.Constraint{says(i, j, weak(c)), says(j, i, weak(-c))}
	case g.IntN(2) == 0 && 2*(c+room) > difference:
		return []api.Constraint{says(i, j, strict(min(most, c+room)))}
	default:
		return []api.Constraint{says(i, j, weak(min(most, c+room)))}
	}
}

// randomZone returns a zone of count constraints, with constants up to about
// size. If these lead out of range, all clocks get an upper bound.
func randomZone(g *rand.Rand, n int, size int64, count int) api.Zone {
	all, _ := zone.All(n)
	for {
		twice := []int64{0}
		for range n {
			twice = append(twice, g.Int64N(2*size+1))
		}
		var l []api.Constraint
		for range count {
			l = append(l, randomConstraint(g, twice, size)...)
		}
		z, e := zone.And(all, l)
		if e == api.ErrRange {
			for i := range n + 1 {
				l = append(l, says(i, 0, weak(most)))
			}
			z, e = zone.And(all, l)
		}
		if e == api.OK {
			return z
		}
	}
}

// randomConstants returns constants for a zone: those of its elements, or
// beside them, one of the ends, or any up to size.
func randomConstants(g *rand.Rand, z api.Zone, size int64) []int64 {
	var l []int64
	for range z.N {
		c := g.Int64N(size + 1)
		switch bound := z.M[g.IntN(len(z.M))]; {
		case g.IntN(5) == 0:
			c = []int64{-1, -1, 0, api.MaxConst}[g.IntN(4)]
		case g.IntN(3) > 0 && bound != none:
			c = max(int64(bound>>1), -int64(bound>>1)) + g.Int64N(3) - 1
		}
		l = append(l, min(max(c, -1), api.MaxConst))
	}
	return l
}

// sizes returns the magnitudes of constants that the tests use.
func sizes() []int64 { return []int64{1, 4, 40, api.MaxConst, most / 2, most} }

// eachCase calls f with zones of these dimensions, with few and many
// constraints, and constants for them; they are the same in each run.
func eachCase(dimensions []int, sizes []int64, count int, f func(g *rand.Rand, z api.Zone, low, high []int64)) {
	g := rand.New(rand.NewPCG(6, 1))
	for _, n := range dimensions {
		for _, size := range sizes {
			for range count {
				z := randomZone(g, n, size, g.IntN(4*n+1))
				f(g, z, randomConstants(g, z, size), randomConstants(g, z, size))
			}
		}
	}
}

// dimensions returns all of them.
func dimensions() []int { return []int{0, 1, 2, 3, 4, 5, 6, 7, 8, 9, api.MaxDim} }

// eachZoneOf calls f with all zones of two clocks whose elements are among
// these: lower for the elements (0, j), and other for the others.
func eachZoneOf(lower, other []api.Limit, f func(z api.Zone)) {
	for _, x := range lower {
		for _, y := range lower {
			for i := range len(other) * len(other) {
				for j := range len(other) * len(other) {
					z := zoneOf(2, 1, x, y, other[i%len(other)], 1, other[i/len(other)], other[j%len(other)], other[j/len(other)], 1)
					if zone.Check(z) == api.OK {
						f(z)
					}
				}
			}
		}
	}
}

// eachSmallZone calls f with all zones of two clocks whose limits are some small ones.
func eachSmallZone(f func(z api.Zone)) {
	other := []api.Limit{weak(-2), strict(-1), weak(-1), strict(0), weak(0), strict(1), weak(1), weak(2), strict(3), weak(3), none}
	eachZoneOf([]api.Limit{weak(0), strict(0), weak(-1), weak(-2)}, other, f)
}

// invalidZones returns zones of which each one breaks one rule of the definition.
func invalidZones() []api.Zone {
	ones := func(n int) []api.Limit { return slices.Repeat([]api.Limit{1}, n) }
	l := []api.Zone{
		{}, {N: -1}, {N: -1, M: ones(1)}, {N: -2, M: ones(1)}, {N: 11, M: ones(144)}, {N: 11}, {N: 10, M: ones(120)}, {N: 10, M: ones(122)}, {N: 12, M: ones(169)},
		{N: math.MaxInt, M: ones(1)}, {N: math.MinInt, M: ones(1)}, {N: 1<<32 - 1, M: ones(1)}, {N: 1}, {N: 0, M: ones(2)}, {N: 0, M: ones(4)}, {N: 2, M: ones(4)},
		zoneOf(1, 1, 1, none), zoneOf(1, 1, 1, none, 1, 1), // too few and too many elements
		zoneOf(0, 0), zoneOf(0, 3), zoneOf(0, none), zoneOf(1, 1, 1, none, 0), zoneOf(1, 1, 1, none, none), zoneOf(1, 3, 1, none, 1), // diagonals
		zoneOf(1, 1, 3, none, 1), zoneOf(1, 1, none, 11, 1), zoneOf(1, 1, none, none, 1), // the clock may be below 0
		zoneOf(1, 1, -3, 3, 1), zoneOf(1, 1, -4, 5, 1), zoneOf(1, 1, 0, 1, 1), zoneOf(1, 1, 1, -1, 1), // empty
		zoneOf(2, 1, 1, 1, 5, 1, none, 5, 5, 1), zoneOf(2, 1, 1, 1, 5, 1, 7, 5, 5, 1), zoneOf(2, 1, -3, 1, none, 1, 1, none, none, 1), // a path is shorter
		zoneOf(2, 1, 1, 1, none, 1, weak(least), none, weak(least), 1),
	}
	for _, bound := range []api.Limit{strict(least) - 1, weak(most) + 1, none - 1, none + 1, -none, math.MinInt64, math.MaxInt64} {
		l = append(l, zoneOf(0, bound), zoneOf(1, 1, 1, bound, 1), zoneOf(1, 1, bound, none, 1))
	}
	return l
}

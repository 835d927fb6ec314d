package federation

import (
	"math"
	"math/rand/v2"
	"slices"
	"strconv"
	"strings"
	"testing"

	"foliot/api"
	"foliot/zone"
)

const (
	most  = api.MaxBound
	least = -api.MaxBound
	none  = api.NoLimit
)

func weak(c int64) api.Limit   { return api.Limit(2*c + 1) }
func strict(c int64) api.Limit { return api.Limit(2 * c) }

// says returns the constraint that the clock i minus the clock j meets l.
func says(i, j int, l api.Limit) api.Constraint { return api.Constraint{I: i, J: j, L: l} }

// zoneOf returns the zone with this matrix as it is written, valid or not.
func zoneOf(n int, m ...api.Limit) api.Zone { return api.Zone{N: n, M: m} }

// made returns the zone of constraints, which has to be there.
func made(t *testing.T, n int, l ...api.Constraint) api.Zone {
	t.Helper()
	z, e := zone.And(all(n), l)
	if e != api.OK {
		t.Fatalf("no zone of %d clocks with %v: %d", n, l, e)
	}
	return z
}

// all returns the zone of all valuations of n clocks.
func all(n int) api.Zone {
	z, _ := zone.All(n)
	return z
}

// spans returns the zones of one clock that intervals describe, as "[0,2) (3,any)".
func spans(text string) []api.Zone {
	var l []api.Zone
	for _, word := range strings.Fields(text) {
		end := len(word) - 1
		from, to, _ := strings.Cut(word[1:end], ",")
		lower, upper := weak(-number(from)), none
		if word[0] == '(' {
			lower--
		}
		if to != "any" {
			upper = weak(number(to))
		}
		if to != "any" && word[end] == ')' {
			upper--
		}
		l = append(l, zoneOf(1, 1, lower, upper, 1))
	}
	return l
}

func number(text string) int64 {
	c, _ := strconv.ParseInt(text, 10, 64)
	return c
}

// box returns the zone of two clocks, of which the one is from a to b, and the other one from c to d.
func box(t *testing.T, a, b, c, d int64) api.Zone {
	t.Helper()
	return made(t, 2, says(0, 1, weak(-a)), says(1, 0, weak(b)), says(0, 2, weak(-c)), says(2, 0, weak(d)))
}

// sameLists tells whether two lists have the same zones in the same order.
func sameLists(a, b []api.Zone) bool { return slices.EqualFunc(a, b, zone.Same) }

func checkList(t *testing.T, got []api.Zone, e api.Errno, want []api.Zone, wantE api.Errno, what string, args ...any) {
	t.Helper()
	if e != wantE || !sameLists(got, want) {
		t.Errorf("%s%v: %v, %d; want %v, %d", what, args, got, e, want, wantE)
	}
}

func checkBool(t *testing.T, got bool, e api.Errno, want bool, wantE api.Errno, what string, args ...any) {
	t.Helper()
	if got != want || e != wantE {
		t.Errorf("%s%v: %v, %d; want %v, %d", what, args, got, e, want, wantE)
	}
}

// times returns a list of count times the same zones.
func times(count int, l ...api.Zone) []api.Zone { return slices.Repeat(l, count) }

// invalidZones returns zones of which each one breaks one rule of the definition.
func invalidZones() []api.Zone {
	ones := func(n int) []api.Limit { return slices.Repeat([]api.Limit{1}, n) }
	l := []api.Zone{
		{}, {N: -1}, {N: -1, M: ones(1)}, {N: 11, M: ones(144)}, {N: 10, M: ones(120)}, {N: 1}, {N: 0, M: ones(4)}, {N: math.MaxInt, M: ones(1)}, {N: math.MinInt, M: ones(1)},
		zoneOf(1, 1, 1, none), zoneOf(1, 1, 1, none, 1, 1), zoneOf(0, 0), zoneOf(1, 1, 1, none, none), // too few, too many, diagonals
		zoneOf(1, 1, 3, none, 1), zoneOf(1, 1, none, 11, 1), zoneOf(1, 1, -3, 3, 1), zoneOf(1, 1, -4, 5, 1), // below 0, empty
		zoneOf(2, 1, 1, 1, 5, 1, none, 5, 5, 1), zoneOf(2, 1, -3, 1, none, 1, 1, none, none, 1), // a path is shorter
	}
	for _, bound := range []api.Limit{strict(least) - 1, weak(most) + 1, none - 1, none + 1, math.MinInt64, math.MaxInt64} {
		l = append(l, zoneOf(0, bound), zoneOf(1, 1, 1, bound, 1), zoneOf(1, 1, bound, none, 1))
	}
	return l
}

// randomConstraint returns a constraint that half the values meet. It leaves
// room up to size, and now and then it binds both clocks.
func randomConstraint(g *rand.Rand, twice []int64, size int64) []api.Constraint {
	i, j := g.IntN(len(twice)), g.IntN(len(twice))
	difference := twice[i] - twice[j]
	c := int64(math.Ceil(float64(difference) / 2))
	switch room := g.Int64N(size + 1); {
	case g.IntN(6) == 0 && 2*c == difference:
		return []api.Constraint{says(i, j, weak(c)), says(j, i, weak(-c))}
	case g.IntN(2) == 0 && 2*(c+room) > difference:
		return []api.Constraint{says(i, j, strict(min(most, c+room)))}
	default:
		return []api.Constraint{says(i, j, weak(min(most, c+room)))}
	}
}

// randomZone returns a zone of count constraints, with constants up to about
// twice size. If these lead out of range, all clocks get an upper bound.
func randomZone(g *rand.Rand, n int, size int64, count int) api.Zone {
	for {
		twice := []int64{0}
		for range n {
			twice = append(twice, g.Int64N(2*size+1))
		}
		var l []api.Constraint
		for range count {
			l = append(l, randomConstraint(g, twice, size)...)
		}
		z, e := zone.And(all(n), l)
		if e == api.ErrRange {
			for i := range n + 1 {
				l = append(l, says(i, 0, weak(most)))
			}
			z, e = zone.And(all(n), l)
		}
		if e == api.OK {
			return z
		}
	}
}

// randomList returns zones that overlap, touch, or are contained in each other,
// or, one time in three, the parts of one zone in any order.
func randomList(g *rand.Rand, n int, size int64, count int) []api.Zone {
	var l []api.Zone
	for range count {
		l = append(l, randomZone(g, n, size, g.IntN(3*n+1)))
	}
	if count > 0 && g.IntN(3) == 0 {
		hole := randomZone(g, n, size, g.IntN(3*n+1))
		if parts, e := minusByWords(l[:1], []api.Zone{hole}); e == api.OK && len(parts) < 6 {
			l = append(parts, l...)
		}
	}
	if count > 0 && g.IntN(3) == 0 {
		l = append(l, l[g.IntN(len(l))])
	}
	g.Shuffle(len(l), func(i, j int) { l[i], l[j] = l[j], l[i] })
	return l
}

// eachPair calls f with two lists of one dimension, small ones; they are the same in each run.
func eachPair(seed uint64, dimensions []int, sizes []int64, count int, f func(g *rand.Rand, a, b []api.Zone)) {
	g := rand.New(rand.NewPCG(5, seed))
	for _, n := range dimensions {
		for _, size := range sizes {
			for range count {
				f(g, randomList(g, n, size, g.IntN(4)), randomList(g, n, size, g.IntN(4)))
			}
		}
	}
}

// dimensions and sizes are those of the tests that go through all of them.
func dimensions() []int { return []int{0, 1, 2, 3, 4, 6, api.MaxDim} }
func sizes() []int64    { return []int64{1, 3, 30, api.MaxConst, most / 2, most} }

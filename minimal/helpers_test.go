package minimal

import (
	"math"
	"math/rand/v2"
	"slices"
	"testing"

	"foliot/api"
	"foliot/zone"
)

const (
	most  = api.MaxBound
	least = -api.MaxBound
	none  = api.NoLimit
)

func weak(c int64) api.Limit   { return api.Limit(2*c + 1) }
func strict(c int64) api.Limit { return api.Limit(2 * c) }

// says returns the constraint that the clock i minus the clock j meets l.
func says(i, j int, l api.Limit) api.Constraint { return api.Constraint{I: i, J: j, L: l} }

// equals returns the constraints that the clock i is the clock j plus c.
func equals(i, j int, c int64) []api.Constraint {
	return []api.Constraint{says(i, j, weak(c)), says(j, i, weak(-c))}
}

// zoneOf returns the zone with this matrix as it is written, valid or not.
func zoneOf(n int, m ...api.Limit) api.Zone { return api.Zone{N: n, M: m} }

// made returns the zone of constraints, which has to be there.
func made(t *testing.T, n int, l ...api.Constraint) api.Zone {
	t.Helper()
	all, _ := zone.All(n)
	z, e := zone.And(all, l)
	if e != api.OK {
		t.Fatalf("no zone of %d clocks with %v: %d", n, l, e)
	}
	return z
}

// reduce returns the reduced constraints of a zone, which has to be valid.
func reduce(t *testing.T, z api.Zone) []api.Constraint {
	t.Helper()
	l, e := Reduce(z)
	if e != api.OK {
		t.Fatalf("Reduce(%v): %d", z, e)
	}
	return l
}

func checkBuild(t *testing.T, n int, l []api.Constraint, want api.Zone, wantE api.Errno) {
	t.Helper()
	z, e := Build(n, l)
	if e != wantE || z.N != want.N || !slices.Equal(z.M, want.M) {
		t.Errorf("Build(%d, %v): %v, %d; want %v, %d", n, l, z, e, want, wantE)
	}
}

// plus returns the sum of two limits, the constant of which has no range.
func plus(a, b api.Limit) api.Limit {
	if a == none || b == none {
		return none
	}
	c := int64(a>>1 + b>>1)
	if a%2 == 0 || b%2 == 0 {
		return strict(c)
	}
	return weak(c)
}

// randomConstraint returns a constraint that half the values meet. It binds
// both clocks, or leaves some room.
func randomConstraint(g *rand.Rand, twice []int64, size int64) []api.Constraint {
	i, j := g.IntN(len(twice)), g.IntN(len(twice))
	difference := twice[i] - twice[j]
	c := int64(math.Ceil(float64(difference) / 2))
	switch room := g.Int64N(size + 1); {
	case g.IntN(3) == 0 && 2*c == difference:
		return equals(i, j, c)
	case g.IntN(2) == 0 && 2*(c+room) > difference:
		return []api.Constraint{says(i, j, strict(min(most, c+room)))}
	default:
		return []api.Constraint{says(i, j, weak(min(most, c+room)))}
	}
}

// randomZone returns a zone of count constraints, with constants up to about
// size. If these lead out of range, all clocks get an upper bound.
func randomZone(g *rand.Rand, n int, size int64, count int) api.Zone {
	all, _ := zone.All(n)
	for {
		twice := []int64{0}
		for range n {
			twice = append(twice, g.Int64N(2*size+1))
		}
		var l []api.Constraint
		for range count {
			l = append(l, randomConstraint(g, twice, size)...)
		}
		z, e := zone.And(all, l)
		if e == api.ErrRange {
			for i := range n + 1 {
				l = append(l, says(i, 0, weak(most)))
			}
			z, e = zone.And(all, l)
		}
		if e == api.OK {
			return z
		}
	}
}

// eachZone calls f with zones of all dimensions, with few and many constraints,
// small and great ones; they are the same in each run.
func eachZone(f func(g *rand.Rand, z api.Zone)) {
	g := rand.New(rand.NewPCG(4, 1))
	for n := range api.MaxDim + 1 {
		for _, size := range []int64{0, 1, 3, 30, api.MaxConst, most / 2, most} {
			for count := range 4*n + 1 {
				for range 3 {
					f(g, randomZone(g, n, size, count))
				}
			}
		}
	}
}

// eachSmallZone calls f with all zones of two clocks whose limits are small.
func eachSmallZone(f func(z api.Zone)) {
	lower := []api.Limit{weak(0), strict(0), weak(-1), weak(-2)}
	other := []api.Limit{weak(-2), strict(-1), weak(-1), strict(0), weak(0), strict(1), weak(1), weak(2), strict(3), weak(3), none}
	for _, x := range lower {
		for _, y := range lower {
			for i := range len(other) * len(other) {
				for j := range len(other) * len(other) {
					z := zoneOf(2, 1, x, y, other[i%len(other)], 1, other[i/len(other)], other[j%len(other)], other[j/len(other)], 1)
					if zone.Check(z) == api.OK {
						f(z)
					}
				}
			}
		}
	}
}

// invalidZones returns zones that break one rule of the definition each.
func invalidZones() []api.Zone {
	ones := func(n int) []api.Limit { return slices.Repeat([]api.Limit{1}, n) }
	all := []api.Zone{
		{}, {N: -1}, {N: -1, M: ones(1)}, {N: -1, M: ones(0)}, {N: 11, M: ones(144)}, {N: 11}, {N: 10, M: ones(120)}, {N: 10, M: ones(122)}, {N: 12, M: ones(169)},
		{N: math.MaxInt, M: ones(1)}, {N: math.MinInt, M: ones(1)}, {N: 1<<32 - 1, M: ones(1)}, {N: 1}, {N: 0, M: ones(2)}, {N: 0, M: ones(4)}, {N: 2, M: ones(4)},
		zoneOf(1, 1, 1, none), zoneOf(1, 1, 1, none, 1, 1), // too few and too many elements
		zoneOf(0, 0), zoneOf(0, 3), zoneOf(0, none), zoneOf(1, 1, 1, none, 0), zoneOf(1, 1, 1, none, none), zoneOf(1, 3, 1, none, 1), // diagonals
		zoneOf(1, 1, 3, none, 1), zoneOf(1, 1, none, 11, 1), zoneOf(1, 1, none, none, 1), // the clock may be below 0
		zoneOf(1, 1, -3, 3, 1), zoneOf(1, 1, -4, 5, 1), zoneOf(1, 1, 0, 1, 1), zoneOf(1, 1, 1, -1, 1), // empty
		zoneOf(2, 1, 1, 1, 5, 1, none, 5, 5, 1), zoneOf(2, 1, 1, 1, 5, 1, 7, 5, 5, 1), zoneOf(2, 1, -3, 1, none, 1, 1, none, none, 1), // a path is shorter
		zoneOf(2, 1, 1, 1, none, 1, weak(least), none, weak(least), 1),
	}
	for _, l := range []api.Limit{strict(least) - 1, weak(most) + 1, none - 1, none + 1, -none, math.MinInt64, math.MaxInt64} {
		all = append(all, zoneOf(0, l), zoneOf(1, 1, 1, l, 1), zoneOf(1, 1, l, none, 1))
	}
	return all
}

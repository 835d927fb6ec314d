package minimal

import (
	"math"
	"math/rand/v2"
	"slices"
	"testing"

	"foliot/api"
	"foliot/zone"
)

// P4.2
func TestBuild(t *testing.T) {
	for _, c := range []struct {
		n    int
		l    []api.Constraint
		want []api.Limit
	}{
		{0, nil, []api.Limit{1}}, {0, []api.Constraint{says(0, 0, weak(0))}, []api.Limit{1}}, {0, []api.Constraint{says(0, 0, none), says(0, 0, weak(most))}, []api.Limit{1}},
		{1, nil, []api.Limit{1, 1, none, 1}}, {1, []api.Constraint{says(1, 0, weak(5)), says(0, 1, strict(-3))}, []api.Limit{1, strict(-3), weak(5), 1}},
		{1, []api.Constraint{says(1, 0, weak(5)), says(1, 0, weak(9)), says(1, 0, strict(5)), says(1, 0, none)}, []api.Limit{1, 1, strict(5), 1}},
		{1, []api.Constraint{says(0, 1, weak(4)), says(1, 1, weak(0)), says(1, 1, strict(1))}, []api.Limit{1, 1, none, 1}},
		{1, equals(1, 0, most), []api.Limit{1, weak(least), weak(most), 1}}, {1, []api.Constraint{says(0, 1, strict(least))}, []api.Limit{1, strict(least), none, 1}},
		{2, []api.Constraint{says(1, 0, weak(5)), says(2, 0, strict(3))}, []api.Limit{1, 1, 1, 11, 1, 11, 6, 6, 1}},
		{2, []api.Constraint{says(1, 2, weak(0)), says(2, 0, weak(0))}, slices.Repeat([]api.Limit{1}, 9)},
		{2, []api.Constraint{says(0, 1, weak(-2)), says(1, 2, weak(-1))}, []api.Limit{1, -3, -5, none, 1, -1, none, none, 1}},
		{api.MaxDim, chain(api.MaxDim, 0), slices.Repeat([]api.Limit{1}, 121)},
	} {
		checkBuild(t, c.n, c.l, zoneOf(c.n, c.want...), api.OK)
	}
}

// P4.2: no constraints are all valuations.
func TestBuildOfNone(t *testing.T) {
	for n := range api.MaxDim + 1 {
		all, _ := zone.All(n)
		checkBuild(t, n, nil, all, api.OK)
		checkBuild(t, n, []api.Constraint{}, all, api.OK)
	}
}

// P4.2: what is no dimension, with constraints that would be something else.
func TestBuildOfNoDimension(t *testing.T) {
	for _, n := range []int{-1, 11, -2, 12, 1 << 32, 1<<32 - 1, math.MaxInt, math.MinInt} {
		for _, l := range [][]api.Constraint{nil, {}, {says(1, 0, weak(5))}, {says(0, 0, strict(0))}, {says(1, 0, strict(0))}, {says(99, 0, 1)}, {says(0, 0, none+1)}} {
			checkBuild(t, n, l, api.Zone{}, api.ErrArg)
		}
	}
}

// P4.2: constraints that are not valid, wherever they stand; this is told before the set is empty, or out of range.
func TestBuildOfNoConstraints(t *testing.T) {
	for _, n := range []int{0, 1, 2, api.MaxDim} {
		wrong := []api.Constraint{
			says(-1, 0, 1), says(0, -1, 1), says(n+1, 0, 1), says(0, n+1, 1), says(n+1, n+1, 1), says(-1, -1, 1), says(math.MaxInt, 0, 1), says(0, math.MinInt, 1), says(1<<32, 0, 1), says(0, 1<<32, 1),
			says(0, n, strict(least)-1), says(n, 0, weak(most)+1), says(n, n, none-1), says(0, 0, none+1), says(n, 0, -none), says(0, n, math.MinInt64), says(n, 0, math.MaxInt64), says(-1, 0, none), says(0, n+1, none),
		}
		for _, c := range wrong {
			for _, other := range [][]api.Constraint{nil, {says(n, 0, weak(5))}, {says(0, 0, strict(0))}, {says(0, n, weak(least)), says(n, 0, weak(least))}} {
				checkBuild(t, n, slices.Concat(other, []api.Constraint{c}), api.Zone{}, api.ErrArg)
				checkBuild(t, n, slices.Concat([]api.Constraint{c}, other), api.Zone{}, api.ErrArg)
			}
		}
	}
	outOfRange := []api.Constraint{says(1, 0, weak(most)), says(2, 1, weak(most)), says(0, 3, 1)}
	checkBuild(t, 2, outOfRange, api.Zone{}, api.ErrArg)
	checkBuild(t, 2, outOfRange[:2], api.Zone{}, api.ErrRange)
}

// P4.2
func TestBuildOfEmptySets(t *testing.T) {
	for _, c := range []struct {
		n int
		l []api.Constraint
	}{
		{0, []api.Constraint{says(0, 0, strict(0))}}, {0, []api.Constraint{says(0, 0, weak(-1))}}, {0, []api.Constraint{says(0, 0, strict(least))}},
		{1, []api.Constraint{says(1, 0, strict(0))}}, {1, []api.Constraint{says(1, 0, weak(-1))}}, {1, []api.Constraint{says(1, 1, strict(0))}},
		{1, []api.Constraint{says(1, 0, weak(1)), says(0, 1, weak(-2))}}, {1, []api.Constraint{says(1, 0, weak(2)), says(0, 1, strict(-2))}}, {1, []api.Constraint{says(1, 0, strict(2)), says(0, 1, weak(-2))}},
		{1, []api.Constraint{says(1, 0, weak(most)), says(0, 1, strict(least))}},
		{2, []api.Constraint{says(1, 2, weak(-1)), says(2, 1, weak(0))}}, {2, []api.Constraint{says(1, 2, strict(3)), says(2, 1, weak(-3))}},
		// Empty, with an element that would be out of range.
		{2, []api.Constraint{says(1, 0, weak(most)), says(2, 1, weak(most)), says(2, 2, strict(0))}},
		{3, []api.Constraint{says(1, 0, weak(most)), says(2, 1, weak(most)), says(0, 3, weak(-2)), says(3, 0, weak(1))}},
		{2, []api.Constraint{says(0, 1, weak(least)), says(1, 2, weak(least)), says(2, 0, weak(most))}},
		{api.MaxDim, append(chain(api.MaxDim, 0), says(0, 1, strict(0)))},
	} {
		checkBuild(t, c.n, c.l, api.Zone{}, api.ErrNone)
	}
}

// P4.2
func TestBuildOutOfRange(t *testing.T) {
	for _, c := range []struct {
		n int
		l []api.Constraint
		e api.Errno
	}{
		{2, []api.Constraint{says(1, 0, weak(most)), says(2, 1, weak(0))}, api.OK}, {2, []api.Constraint{says(1, 0, weak(most)), says(2, 1, weak(1))}, api.ErrRange},
		{2, []api.Constraint{says(1, 0, weak(most)), says(2, 1, strict(1))}, api.ErrRange}, {2, []api.Constraint{says(1, 0, weak(most)), says(2, 1, weak(1)), says(2, 0, weak(most))}, api.OK},
		{2, []api.Constraint{says(0, 1, weak(least)), says(1, 2, weak(0))}, api.OK}, {2, []api.Constraint{says(0, 1, weak(least)), says(1, 2, strict(0))}, api.OK},
		{2, []api.Constraint{says(0, 1, weak(least)), says(1, 2, weak(-1))}, api.ErrRange}, {2, []api.Constraint{says(0, 1, strict(least)), says(1, 2, weak(least))}, api.ErrRange},
	} {
		if z, e := Build(c.n, c.l); e != c.e || e != api.OK && (z.N != 0 || len(z.M) != 0) {
			t.Errorf("Build(%d, %v): %v, %d", c.n, c.l, z, e)
		}
	}
}

// wildConstraints returns constraints that contradict each other now and then.
func wildConstraints(g *rand.Rand, n int, size int64) []api.Constraint {
	var l []api.Constraint
	for range g.IntN(3*n + 2) {
		c := weak(min(most, max(least, g.Int64N(5*size+1)-size)))
		if g.IntN(3) == 0 {
			c--
		}
		l = append(l, says(g.IntN(n+1), g.IntN(n+1), c))
	}
	return l
}

// P4.2
func TestBuildIsAndOfAll(t *testing.T) {
	told := map[api.Errno]int{}
	g := rand.New(rand.NewPCG(4, 2))
	for n := range api.MaxDim + 1 {
		all, _ := zone.All(n)
		for _, size := range []int64{0, 1, 3, 30, api.MaxConst, most / 2, most} {
			for range 60 {
				l := wildConstraints(g, n, size)
				want, e := zone.And(all, l)
				told[e]++
				checkBuild(t, n, l, want, e)
			}
		}
	}
	for _, e := range []api.Errno{api.OK, api.ErrNone, api.ErrRange} {
		if told[e] < 100 {
			t.Errorf("%d is told only %d times", e, told[e])
		}
	}
}

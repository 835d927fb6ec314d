package zone

import (
	"math/rand/v2"
	"slices"
	"testing"

	"foliot/api"
)

const (
	unit = 8         // the points of a grid have values in eighths
	step = 2         // and of these each second one; what is asked for may lie between two of them
	far  = 16 * unit // beyond all constants
)

// insideGrid tells whether a point of the grid is in the set of a matrix; a zone without one is empty.
func insideGrid(z api.Zone, p []int64) bool {
	if z.M == nil {
		return false
	}
	for i := range z.N + 1 {
		for j := range z.N + 1 {
			var difference int64
			if i > 0 {
				difference += p[i-1]
			}
			if j > 0 {
				difference -= p[j-1]
			}
			b := element(z, i, j)
			if !b.none && (difference > b.c*unit || difference == b.c*unit && b.strict) {
				return false
			}
		}
	}
	return true
}

// eachPoint calls f for all points of the grid up to 7 in each direction.
func eachPoint(n int, f func(p []int64)) {
	p := make([]int64, n)
	var from func(i int)
	from = func(i int) {
		if i == n {
			f(p)
			return
		}
		for p[i] = 0; p[i] <= 7*unit; p[i] += step {
			from(i + 1)
		}
	}
	from(0)
}

// some tells whether there is a number for which f holds, from 0 to a number beyond all constants.
func some(f func(x int64) bool) bool {
	for x := int64(0); x <= far; x++ {
		if f(x) {
			return true
		}
	}
	return false
}

// moved returns the point with d added to each value, and whether none is below 0 then.
func moved(p []int64, d int64) ([]int64, bool) {
	q := slices.Clone(p)
	for i := range q {
		q[i] += d
	}
	return q, len(q) == 0 || slices.Min(q) >= 0
}

// set returns the point with the value x for the clock i.
func set(p []int64, i int, x int64) []int64 {
	q := slices.Clone(p)
	q[i-1] = x
	return q
}

// value returns the value of a clock, the clock 0 among them.
func value(p []int64, i int) int64 {
	if i == 0 {
		return 0
	}
	return p[i-1]
}

// P3.4, P3.5, P3.6: what the operations say of each point of a grid is what is promised of it.
func TestOperationsPointByPoint(t *testing.T) {
	g := rand.New(rand.NewPCG(9, 10))
	for try := range 60 {
		n := 1 + try%2
		z, b := randomZone(g, n, 2), randomZone(g, n, 2)
		i, j, c := 1+g.IntN(n), g.IntN(n+1), g.Int64N(4)
		l := []api.Constraint{{I: i, J: j, L: randomLimit(g, 2)}}
		limited := bound{c: boundOf(l[0].L).c * unit, strict: boundOf(l[0].L).strict}
		up, _ := Up(z)
		down, _ := Down(z)
		reset, _ := Reset(z, i, c)
		free, _ := Free(z, i)
		copied, _ := Copy(z, i, j)
		before, _ := Before(z, i, c)
		meet, _ := Meet(z, b)
		and, _ := And(z, l)
		eachPoint(n, func(p []int64) {
			other := func(f func(q []int64) bool) bool {
				return some(func(x int64) bool { return f(set(p, i, x)) })
			}
			inZ := func(q []int64) bool { return insideGrid(z, q) }
			for what, in := range map[string][2]bool{
				"Up":     {insideGrid(up, p), some(func(d int64) bool { q, ok := moved(p, -d); return ok && inZ(q) })},
				"Down":   {insideGrid(down, p), some(func(d int64) bool { q, _ := moved(p, d); return inZ(q) })},
				"Reset":  {insideGrid(reset, p), p[i-1] == c*unit && other(inZ)},
				"Free":   {insideGrid(free, p), other(inZ)},
				"Copy":   {insideGrid(copied, p), other(func(q []int64) bool { return inZ(q) && p[i-1] == value(q, j) })},
				"Before": {insideGrid(before, p), inZ(set(p, i, c*unit))},
				"Meet":   {insideGrid(meet, p), inZ(p) && insideGrid(b, p)},
				"And":    {insideGrid(and, p), inZ(p) && (l[0].L == none || !limited.less(bound{c: value(p, i) - value(p, j)}))},
			} {
				if in[0] != in[1] {
					t.Errorf("%s of %v with %v, %d, %d, %d, %v: %v is in: %v", what, z, b, i, j, c, l, p, in[0])
				}
			}
		})
	}
}

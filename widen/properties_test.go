package widen

import (
	"math/rand/v2"
	"slices"
	"testing"

	"foliot/api"
	"foliot/zone"
)

// less returns constants of which none is greater, and some are not as great.
func less(g *rand.Rand, k []int64) []int64 {
	l := slices.Clone(k)
	for i := range l {
		switch g.IntN(4) {
		case 0:
			l[i]--
		case 1:
			l[i] -= g.Int64N(l[i] + 2)
		case 2:
			l[i] = -1
		}
		l[i] = max(l[i], -1)
	}
	return l
}

// P6.2
func TestResultsContainTheZone(t *testing.T) {
	greater := 0
	eachCase(dimensions(), sizes(), 40, func(g *rand.Rand, z api.Zone, low, high []int64) {
		for _, w := range []api.Zone{bounds(t, z, low, high), greatest(t, z, low)} {
			if e := zone.Check(w); e != api.OK || w.N != z.N {
				t.Errorf("%v, widened by %v and %v: %v, %d", z, low, high, w, e)
			}
			if !includes(t, w, z) {
				t.Errorf("%v, widened by %v and %v, is not contained in %v", z, low, high, w)
			}
			if !zone.Same(w, z) {
				greater++
			}
		}
	})
	if greater < 1000 {
		t.Errorf("only %d results are greater", greater)
	}
}

// P6.2
func TestLesserConstants(t *testing.T) {
	greater := 0
	eachCase(dimensions(), sizes(), 40, func(g *rand.Rand, z api.Zone, low, high []int64) {
		lower, higher := less(g, low), less(g, high)
		w := bounds(t, z, low, high)
		for _, c := range [][2][]int64{{lower, high}, {low, higher}, {lower, higher}} {
			more := bounds(t, z, c[0], c[1])
			if !includes(t, more, w) {
				t.Errorf("%v: %v with %v and %v is not contained in %v with %v", z, w, low, high, more, c)
			}
			if !zone.Same(more, w) {
				greater++
			}
		}
		if !includes(t, greatest(t, z, lower), greatest(t, z, low)) {
			t.Errorf("Greatest of %v with %v and %v", z, low, lower)
		}
	})
	if greater < 1000 {
		t.Errorf("only %d results are greater", greater)
	}
}

// P6.1: a clock that is not compared at all has no constraints, so that there are none if no clock is compared.
func TestNothingIsCompared(t *testing.T) {
	eachCase(dimensions(), sizes(), 10, func(g *rand.Rand, z api.Zone, low, high []int64) {
		all, _ := zone.All(z.N)
		checkGreatest(t, z, times(z.N, -1), all, api.OK)
		if z.N == 0 {
			return
		}
		i := 1 + g.IntN(z.N)
		low[i-1], high[i-1] = -1, -1
		w := bounds(t, z, low, high)
		free, e := zone.Free(w, i)
		checkZone(t, free, e, w, api.OK, "Free", w, i)
	})
}

// P6.3: the elements of the result that are no sums of others have constants
// from the negative upper to the lower one, and these determine it. (For the
// clock 0, and where a clock is not compared, the constant is 0 or there is none.)
func TestElementsLieBetweenTheConstants(t *testing.T) {
	left, outside := 0, 0
	eachCase(dimensions(), sizes(), 40, func(g *rand.Rand, z api.Zone, low, high []int64) {
		w := bounds(t, z, low, high)
		m := slices.Clone(w.M)
		for i := range w.N + 1 {
			for j := range w.N + 1 {
				var most, least int64
				if i > 0 {
					most = low[i-1]
				}
				if j > 0 {
					least = min(-high[j-1], 0)
				}
				place := i*(w.N+1) + j
				if c := constant(m[place]); m[place] != none && (c < least || c > most) {
					m[place] = none
					outside++
				} else if i != j && m[place] != none {
					left++
				}
			}
		}
		got, e := zone.Close(w.N, m)
		checkZone(t, got, e, w, api.OK, "Close", z, low, high)
	})
	if left < 1000 || outside < 1000 {
		t.Errorf("%d elements lie between the constants, %d do not", left, outside)
	}
}

// P6.3: the elements that determine the result stay as they are, if it is widened again.
func TestOnceIsEnough(t *testing.T) {
	eachCase(dimensions(), sizes(), 40, func(g *rand.Rand, z api.Zone, low, high []int64) {
		w := bounds(t, z, low, high)
		checkBounds(t, w, low, high, w, api.OK)
		w = greatest(t, z, high)
		checkGreatest(t, w, high, w, api.OK)
	})
}

// P6.3: all intervals with constants up to some number, widened, are not more with greater numbers.
func TestFinitelyManyIntervals(t *testing.T) {
	for _, c := range []struct {
		low, high int64
		want      int
	}{
		// From "at least 0" to "more than 2", and to no end, or one of "at most 0" to "at most 2" that is not below.
		{2, 2, 6 + 1 + 2 + 3 + 4 + 5}, {0, 0, 2 + 1}, {-1, -1, 1}, {-1, 2, 6}, {2, -1, 1 + 5}, {0, 2, 6 + 1}, {1, 0, 2 + 1 + 2 + 2},
	} {
		for _, size := range []int64{5, 10, 30} {
			results := map[[2]api.Limit]bool{}
			for lower := weak(0); lower >= strict(-size); lower-- {
				for upper := weak(0); upper <= weak(size)+1; upper++ {
					if upper > weak(size) {
						upper = none
					}
					if z := zoneOf(1, 1, lower, upper, 1); zone.Check(z) == api.OK {
						w := bounds(t, z, []int64{c.low}, []int64{c.high})
						results[[2]api.Limit{w.M[1], w.M[2]}] = true
					}
				}
			}
			if len(results) != c.want {
				t.Errorf("with %d and %d, up to %d: %d results, not %d", c.low, c.high, size, len(results), c.want)
			}
		}
	}
}

// P6.3: all results of zones of two clocks, with constants from -1 to 1, are
// those of zones whose constants are sums of two of these.
func TestFinitelyManyZones(t *testing.T) {
	low, high := []int64{0, 1}, []int64{1, 0}
	all := map[[9]api.Limit]bool{}
	eachZoneOf([]api.Limit{1, 0, -1, -2, -3, -4}, []api.Limit{-4, -3, -2, -1, 0, 1, 2, 3, 4, 5, none}, func(z api.Zone) {
		all[[9]api.Limit(bounds(t, z, low, high).M)] = true
	})
	for _, size := range []int64{2, 3, 30, api.MaxConst, most} {
		seen := map[[9]api.Limit]bool{}
		g := rand.New(rand.NewPCG(6, 3))
		for range 2000 {
			z := randomZone(g, 2, size, g.IntN(7))
			w := bounds(t, z, low, high)
			seen[[9]api.Limit(w.M)] = true
			if !all[[9]api.Limit(w.M)] {
				t.Errorf("%v becomes %v, as no small zone does", z, w)
			}
		}
		if len(seen) < 5 {
			t.Errorf("only %d results of zones up to %d", len(seen), size)
		}
	}
}

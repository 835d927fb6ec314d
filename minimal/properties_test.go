package minimal

import (
	"math/rand/v2"
	"slices"
	"testing"

	"foliot/api"
	"foliot/zone"
)

// P4.3
func TestBuildOfReduce(t *testing.T) {
	check := func(z api.Zone) { checkBuild(t, z.N, reduce(t, z), z, api.OK) }
	eachSmallZone(check)
	eachZone(func(g *rand.Rand, z api.Zone) { check(z) })
}

// P4.3: the order of the constraints does not matter, and saying them twice neither.
func TestBuildOfReduceInAnyOrder(t *testing.T) {
	eachZone(func(g *rand.Rand, z api.Zone) {
		l := reduce(t, z)
		l = append(l, l...)
		g.Shuffle(len(l), func(i, j int) { l[i], l[j] = l[j], l[i] })
		checkBuild(t, z.N, l, z, api.OK)
	})
}

// P4.3 and P4.4: elements of the matrix that are said as well are left out again.
func TestReduceOfBuild(t *testing.T) {
	fewer := 0
	eachZone(func(g *rand.Rand, z api.Zone) {
		l := reduce(t, z)
		more := slices.Clone(l)
		for i := range z.N + 1 {
			for j := range z.N + 1 {
				if g.IntN(2) == 0 {
					more = append(more, says(i, j, z.M[i*(z.N+1)+j]))
				}
			}
		}
		again, e := Build(z.N, more)
		if e != api.OK {
			t.Fatalf("Build(%d, %v): %d", z.N, more, e)
		}
		checkReduce(t, again, l)
		if len(l) < len(more) {
			fewer++
		}
	})
	if fewer < 100 {
		t.Errorf("only %d lists have been reduced", fewer)
	}
}

// checkNeeded checks that a zone gets greater without each one of its reduced
// constraints, and counts the sets that are in range then, and those that are not.
func checkNeeded(t *testing.T, z api.Zone, told map[api.Errno]int) {
	t.Helper()
	l := reduce(t, z)
	for place, c := range l {
		others := slices.Delete(slices.Clone(l), place, place+1)
		greater, e := Build(z.N, others)
		told[e]++
		if e == api.OK {
			if in, e := zone.Includes(greater, z); !in || e != api.OK || zone.Same(greater, z) {
				t.Errorf("%v is without %v no greater than %v: %v", l, c, z, greater)
			}
		}
		// Also a set that is out of range has to have points that do not meet c.
		if _, e := Build(z.N, append(others, says(c.J, c.I, opposite(c.L)))); e != api.OK && e != api.ErrRange {
			t.Errorf("%v says as much without %v: %d", l, c, e)
		}
	}
}

// opposite returns the limit that the negatives of the numbers meet that do not meet l.
func opposite(l api.Limit) api.Limit { return 1 - l }

// P4.4
func TestNoneCanBeLeftOut(t *testing.T) {
	told := map[api.Errno]int{}
	eachSmallZone(func(z api.Zone) { checkNeeded(t, z, told) })
	if told[api.OK] < 1000 || told[api.ErrRange] > 0 {
		t.Errorf("%d greater zones, and %d out of range", told[api.OK], told[api.ErrRange])
	}
	eachZone(func(g *rand.Rand, z api.Zone) { checkNeeded(t, z, told) })
	if told[api.OK] < 10000 || told[api.ErrRange] == 0 {
		t.Errorf("%d greater zones, and %d out of range", told[api.OK], told[api.ErrRange])
	}
}

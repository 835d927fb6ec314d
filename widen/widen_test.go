package widen

import (
	"math"
	"math/rand/v2"
	"slices"
	"testing"

	"foliot/api"
	"foliot/zone"
)

// P6.1: the document's examples.
func TestExamples(t *testing.T) {
	z := span("[3,5]")
	for _, c := range []struct {
		k    int64
		want string
	}{{4, "[3,any)"}, {5, "[3,5]"}, {2, "(2,any)"}, {-1, "[0,any)"}} {
		checkGreatest(t, z, []int64{c.k}, span(c.want), api.OK)
	}
	checkBounds(t, z, []int64{2}, []int64{9}, span("[3,any)"), api.OK)
	checkBounds(t, z, []int64{9}, []int64{2}, span("(2,5]"), api.OK)
	above := made(t, 2, says(1, 0, weak(1)), says(0, 1, weak(-1)), says(1, 2, strict(-3)))
	checkZone(t, above, api.OK, zoneOf(2, 1, -1, strict(-4), 3, 1, strict(-3), none, none, 1), api.OK, "above")
	checkGreatest(t, pointZone(t, 1, 7), []int64{3, 3}, above, api.OK)
	checkGreatest(t, z, nil, api.Zone{}, api.ErrArg)
	checkGreatest(t, z, []int64{-2}, api.Zone{}, api.ErrArg)
}

// P6.1: one clock, whose ends are just a constant or one beside it, weak and strict.
func TestIntervals(t *testing.T) {
	for _, c := range []struct {
		z         string
		low, high int64
		want      string
	}{
		// The upper end and the lower constant: the clock 0 is j.
		{"[3,5]", 4, 9, "[3,any)"}, {"[3,5]", 5, 9, "[3,5]"}, {"[3,5]", 6, 9, "[3,5]"}, {"[3,5]", 0, 9, "[3,any)"}, {"[3,5]", -1, 9, "[3,any)"},
		{"[3,5)", 4, 9, "[3,any)"}, {"[3,5)", 5, 9, "[3,5)"}, {"[3,5)", 6, 9, "[3,5)"},
		{"[0,1]", 0, 9, "[0,any)"}, {"[0,1)", 0, 9, "[0,any)"}, {"[0,1)", 1, 9, "[0,1)"}, {"[0,0]", 0, 9, "[0,0]"}, {"[0,0]", -1, 9, "[0,any)"}, {"[0,0]", 1, 9, "[0,0]"},
		{"[3,any)", 0, 9, "[3,any)"}, {"[3,any)", -1, 9, "[3,any)"}, {"[3,any)", 9, 9, "[3,any)"}, {"[3,any)", api.MaxConst, api.MaxConst, "[3,any)"},
		// The lower end and the upper constant: the clock 0 is i.
		{"[3,5]", 9, 2, "(2,5]"}, {"[3,5]", 9, 3, "[3,5]"}, {"[3,5]", 9, 4, "[3,5]"}, {"[3,5]", 9, 1, "(1,5]"}, {"[3,5]", 9, 0, "(0,5]"}, {"[3,5]", 9, -1, "[0,5]"},
		{"(3,5]", 9, 2, "(2,5]"}, {"(3,5]", 9, 3, "(3,5]"}, {"(3,5]", 9, 4, "(3,5]"}, {"(3,5]", 9, -1, "[0,5]"},
		{"(0,5]", 9, 0, "(0,5]"}, {"(0,5]", 9, 1, "(0,5]"}, {"(0,5]", 9, -1, "[0,5]"}, {"[0,5]", 9, -1, "[0,5]"}, {"[0,5]", 9, 0, "[0,5]"}, {"[1,5]", 9, 0, "(0,5]"}, {"[1,5]", 9, 1, "[1,5]"},
		{"[3,any)", 9, 2, "(2,any)"}, {"[3,any)", 9, -1, "[0,any)"},
		// Both.
		{"[3,3]", 3, 3, "[3,3]"}, {"[3,3]", 2, 2, "(2,any)"}, {"[3,3]", 2, 3, "[3,any)"}, {"[3,3]", 3, 2, "(2,3]"}, {"[3,3]", -1, -1, "[0,any)"}, {"(3,4)", 3, 3, "(3,any)"}, {"(3,4)", 4, 4, "(3,4)"},
		{"[7,9]", 3, 5, "(5,any)"}, {"[7,9]", 5, 3, "(3,any)"}, {"[7,9]", 0, 0, "(0,any)"}, {"[7,9]", -1, 0, "(0,any)"}, {"[7,9]", 0, -1, "[0,any)"},
	} {
		checkBounds(t, span(c.z), []int64{c.low}, []int64{c.high}, span(c.want), api.OK)
		if c.low == c.high {
			checkGreatest(t, span(c.z), []int64{c.low}, span(c.want), api.OK)
		}
	}
}

// P6.1: the greatest constants, of lists and of zones.
func TestGreatConstants(t *testing.T) {
	for _, c := range []struct {
		z, want string
		k       int64
	}{
		{"[1048576,1048576]", "[1048576,1048576]", api.MaxConst}, {"[1048576,1048577)", "[1048576,any)", api.MaxConst}, {"(1048576,1048577)", "(1048576,any)", api.MaxConst},
		{"[1048577,1048577]", "(1048576,any)", api.MaxConst}, {"[1048575,1048576)", "[1048575,1048576)", api.MaxConst}, {"[1048576,1048576]", "(1048575,any)", api.MaxConst - 1},
		{"[1073741824,1073741824]", "(1048576,any)", api.MaxConst}, {"[1073741824,1073741824]", "(0,any)", 0}, {"[1073741824,1073741824]", "[0,any)", -1}, {"[0,1073741824)", "[0,any)", api.MaxConst},
		{"(1073741824,any)", "(1048576,any)", api.MaxConst}, {"(1073741824,any)", "[0,any)", -1},
	} {
		checkGreatest(t, span(c.z), []int64{c.k}, span(c.want), api.OK)
		checkBounds(t, span(c.z), []int64{c.k}, []int64{c.k}, span(c.want), api.OK)
	}
	// The sums of the elements stay in range, although they have been just at its end.
	far := made(t, 2, says(0, 1, weak(least)), says(1, 0, weak(most)), says(2, 0, weak(0)))
	checkGreatest(t, far, times(2, api.MaxConst), made(t, 2, says(0, 1, strict(-api.MaxConst)), says(2, 0, weak(0)), says(2, 1, strict(-api.MaxConst))), api.OK)
}

// P6.1: bounds of neighbours stay, and what they add up to, although it is far beyond the constants.
func TestChain(t *testing.T) {
	var up, down []api.Constraint
	for i := range api.MaxDim {
		up = append(up, says(i+1, i, weak(api.MaxConst)))
		down = append(down, says(i, i+1, strict(-api.MaxConst)))
	}
	for _, l := range [][]api.Constraint{up, down} {
		z := made(t, api.MaxDim, l...)
		checkGreatest(t, z, times(api.MaxDim, api.MaxConst), z, api.OK)
	}
}

// P6.1: two clocks, with the elements of their differences.
func TestDifferences(t *testing.T) {
	p, const9 := pointZone(t, 1, 7), times(2, 9)
	atMost3 := made(t, 2, says(1, 2, weak(3)))
	behind := made(t, 2, says(1, 2, weak(-3)))
	checkZone(t, behind, api.OK, zoneOf(2, 1, 1, -5, none, 1, -5, none, none, 1), api.OK, "behind")
	for _, c := range []struct {
		z         api.Zone
		low, high []int64
		want      []api.Limit
	}{
		{p, []int64{9, 9}, const9, []api.Limit{1, -1, -13, 3, 1, -11, 15, 13, 1}},
		// The first and the third case: NoLimit, not "less than -3".
		{p, []int64{-1, 9}, []int64{9, 3}, []api.Limit{1, -1, -6, none, 1, none, 15, 13, 1}},
		// The second and the third case: "at most 0" and NoLimit, not "less than 1".
		{p, []int64{5, 9}, []int64{9, -1}, []api.Limit{1, -1, 1, 3, 1, 3, 15, 13, 1}},
		// The changed matrix is not canonical: the clock 2 is above 3 for itself, and above 4 as it is so far behind the clock 1.
		{p, []int64{3, 3}, []int64{3, 3}, []api.Limit{1, -1, -8, 3, 1, -6, none, none, 1}},
		// The clock 2 has no upper end for itself, but one as it is at most 6 behind the clock 1.
		{p, []int64{9, 6}, const9, []api.Limit{1, -1, -13, 3, 1, -11, 15, 13, 1}},
		{p, []int64{9, 5}, const9, []api.Limit{1, -1, -13, 3, 1, -11, none, none, 1}},
		{atMost3, []int64{3, 0}, []int64{0, 0}, []api.Limit{1, 1, 1, none, 1, 7, none, none, 1}},
		{atMost3, []int64{4, 0}, []int64{0, 0}, []api.Limit{1, 1, 1, none, 1, 7, none, none, 1}},
		{atMost3, []int64{2, 9}, const9, []api.Limit{1, 1, 1, none, 1, none, none, none, 1}},
		{atMost3, []int64{-1, 9}, const9, []api.Limit{1, 1, 1, none, 1, none, none, none, 1}},
		{atMost3, const9, []int64{9, -1}, []api.Limit{1, 1, 1, none, 1, none, none, none, 1}},
		{atMost3, const9, []int64{-1, 9}, []api.Limit{1, 1, 1, none, 1, 7, none, none, 1}},
		{behind, []int64{0, -1}, []int64{-1, 3}, []api.Limit{1, 1, -5, none, 1, -5, none, none, 1}},
		{behind, []int64{0, -1}, []int64{-1, 4}, []api.Limit{1, 1, -5, none, 1, -5, none, none, 1}},
		{behind, []int64{0, -1}, []int64{-1, 2}, []api.Limit{1, 1, -4, none, 1, -4, none, none, 1}},
		{behind, []int64{0, -1}, []int64{-1, 0}, []api.Limit{1, 1, 0, none, 1, 0, none, none, 1}},
		{behind, []int64{0, -1}, []int64{-1, -1}, []api.Limit{1, 1, 1, none, 1, none, none, none, 1}},
		{behind, []int64{-1, -1}, []int64{-1, 3}, []api.Limit{1, 1, -5, none, 1, none, none, none, 1}},
		{behind, []int64{-1, -1}, []int64{-1, 2}, []api.Limit{1, 1, -4, none, 1, none, none, none, 1}},
	} {
		checkBounds(t, c.z, c.low, c.high, zoneOf(2, c.want...), api.OK)
		if slices.Equal(c.low, c.high) {
			checkGreatest(t, c.z, c.low, zoneOf(2, c.want...), api.OK)
		}
	}
}

// P6.1: the dimension 0 has no constants, and one zone.
func TestDimensionZero(t *testing.T) {
	z := zoneOf(0, 1)
	for _, l := range [][]int64{nil, {}} {
		checkGreatest(t, z, l, z, api.OK)
		checkBounds(t, z, l, nil, z, api.OK)
		checkBounds(t, z, nil, l, z, api.OK)
	}
	for _, l := range [][]int64{{0}, {-1}, {1, 2}} {
		checkGreatest(t, z, l, api.Zone{}, api.ErrArg)
		checkBounds(t, z, l, nil, api.Zone{}, api.ErrArg)
		checkBounds(t, z, nil, l, api.Zone{}, api.ErrArg)
	}
}

// P6.1: the greatest dimension.
func TestGreatestDimension(t *testing.T) {
	all, _ := zone.All(api.MaxDim)
	zero, _ := zone.Zero(api.MaxDim)
	for _, c := range []int64{-1, 0, 1, api.MaxConst} {
		k := times(api.MaxDim, c)
		checkGreatest(t, all, k, all, api.OK)
		if c >= 0 {
			checkGreatest(t, zero, k, zero, api.OK)
		} else {
			checkGreatest(t, zero, k, all, api.OK)
		}
		for _, length := range []int{api.MaxDim - 1, api.MaxDim + 1} {
			checkGreatest(t, zero, times(length, c), api.Zone{}, api.ErrArg)
			checkBounds(t, zero, times(length, c), k, api.Zone{}, api.ErrArg)
			checkBounds(t, zero, k, times(length, c), api.Zone{}, api.ErrArg)
		}
	}
	// Each clock has its own constants: the last one is 3, the others are 0.
	reset := pointZone(t, 0, 0, 0, 0, 0, 0, 0, 0, 0, 3)
	k := append(times(api.MaxDim-1, 0), 2)
	l := []api.Constraint{says(0, api.MaxDim, strict(-2))}
	for i := range api.MaxDim - 1 {
		l = append(l, says(i+1, 0, weak(0)))
	}
	checkGreatest(t, reset, k, made(t, api.MaxDim, l...), api.OK)
}

// P6.1: lists that are no constants for the zone.
func TestNoConstants(t *testing.T) {
	z, right := pointZone(t, 1, 7), []int64{-1, api.MaxConst}
	checkBounds(t, z, right, right, zoneOf(2, 1, 1, -13, none, 1, none, 15, 15, 1), api.OK)
	for _, wrong := range [][]int64{
		nil, {}, {3}, {3, 3, 3}, {-2, 3}, {3, -2}, {api.MaxConst + 1, 3}, {3, api.MaxConst + 1}, {-2, -2}, {-1, -1, -1},
		{math.MinInt64, 3}, {3, math.MinInt64}, {math.MaxInt64, 3}, {3, math.MaxInt64}, {1 << 32, 3}, {1<<32 - 1, 3}, times(11, 3), times(10, 3),
	} {
		checkGreatest(t, z, wrong, api.Zone{}, api.ErrArg)
		checkBounds(t, z, wrong, right, api.Zone{}, api.ErrArg)
		checkBounds(t, z, right, wrong, api.Zone{}, api.ErrArg)
		checkBounds(t, z, wrong, wrong, api.Zone{}, api.ErrArg)
	}
}

// P6.1
func TestInvalidZones(t *testing.T) {
	for _, z := range invalidZones() {
		for _, n := range []int{0, 1, 2, api.MaxDim, api.MaxDim + 1, api.MaxDim + 2} {
			for _, c := range []int64{-2, -1, 0, api.MaxConst} {
				checkGreatest(t, z, times(n, c), api.Zone{}, api.ErrArg)
				checkBounds(t, z, times(n, c), times(n, 3), api.Zone{}, api.ErrArg)
			}
		}
	}
}

// checkWords checks both functions against the document's words, and tells
// whether the changed matrix is canonical.
func checkWords(t *testing.T, z api.Zone, low, high []int64, decided map[string]int) bool {
	t.Helper()
	want, isCanonical := words{z, low, high, decided}.result()
	checkBounds(t, z, low, high, want, api.OK)
	want, _ = words{z, low, low, decided}.result()
	checkGreatest(t, z, low, want, api.OK)
	return isCanonical
}

// checkDecided checks that each case is often decided, also if others apply.
func checkDecided(t *testing.T, decided map[string]int, enough int) {
	t.Helper()
	for _, why := range []string{
		"", "clock 0, ", "1 no limit, ", "1 not compared, ", "1 no limit, 1 not compared, ", "1 above, ", "2 not compared, ", "3 below, ", "clock 0, 3 below, ",
		"1 no limit, 2 not compared, ", "1 not compared, 2 not compared, ", "1 not compared, 2 not compared, 3 below, ", "1 not compared, 3 below, ", "1 above, 2 not compared, ",
		"2 not compared, 3 below, ", "clock 0, 2 not compared, 3 below, ",
	} {
		if decided[why] < enough {
			t.Errorf("%q decides only %d times", why, decided[why])
		}
	}
}

// P6.1: all dimensions and sizes, against the document's words.
func TestWords(t *testing.T) {
	decided, canonicals := map[string]int{}, map[bool]int{}
	eachCase(dimensions(), sizes(), 60, func(g *rand.Rand, z api.Zone, low, high []int64) {
		canonicals[checkWords(t, z, low, high, decided)]++
	})
	checkDecided(t, decided, 500)
	if canonicals[false] < 500 || canonicals[true] < 500 {
		t.Errorf("%d changed matrices are not canonical, %d are", canonicals[false], canonicals[true])
	}
}

// P6.1: all small zones of two clocks, with all small constants.
func TestSmallZones(t *testing.T) {
	decided, constants, count := map[string]int{}, []int64{-1, 0, 1, 2, 3}, 0
	eachSmallZone(func(z api.Zone) {
		count++
		for _, a := range constants {
			for _, b := range constants {
				for _, c := range []int64{-1, 0, 2} {
					checkWords(t, z, []int64{a, c}, []int64{b, 1}, decided)
					checkWords(t, z, []int64{c, a}, []int64{1, b}, decided)
				}
			}
		}
	})
	checkDecided(t, decided, 500)
	if count < 300 {
		t.Errorf("only %d zones", count)
	}
}

// P6.1: the order of both lists matters.
func TestLowIsNotHigh(t *testing.T) {
	differ := 0
	eachCase(dimensions(), sizes(), 20, func(g *rand.Rand, z api.Zone, low, high []int64) {
		checkGreatest(t, z, low, bounds(t, z, low, low), api.OK)
		if !zone.Same(bounds(t, z, low, high), bounds(t, z, high, low)) {
			differ++
		}
	})
	if differ < 200 {
		t.Errorf("only %d zones differ", differ)
	}
}

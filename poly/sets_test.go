package poly

import (
	"math"
	"slices"
	"testing"

	"foliot/api"
)

func checkImplies(t *testing.T, n int, l []api.Line, x api.Line, want bool, wantE api.Errno) {
	t.Helper()
	got, e := Implies(n, l, x)
	checkBool(t, got, e, want, wantE, "Implies", n, l, x)
}

func checkIncludes(t *testing.T, n int, a, b []api.Line, want bool, wantE api.Errno) {
	t.Helper()
	got, e := Includes(n, a, b)
	checkBool(t, got, e, want, wantE, "Includes", n, a, b)
}

func checkMinus(t *testing.T, n int, a, b []api.Line, want [][]api.Line, wantE api.Errno) {
	t.Helper()
	got, e := Minus(n, a, b)
	checkLists(t, got, e, want, wantE, "Minus", n, a, b)
}

// P7.4: the examples of the chapter, and others.
func TestImplies(t *testing.T) {
	corner := list(most(4, 1, 1), most(0, -1, 0))
	for _, c := range []struct {
		l    []api.Line
		x    api.Line
		want bool
	}{
		{corner, most(8, 0, 2), true}, {corner, less(8, 0, 2), false}, {corner, less(9, 0, 2), true}, {corner, most(7, 0, 2), false},
		{corner, corner[0], true}, {corner, corner[1], true}, {corner, less(0, -1, 0), false}, {corner, most(0, 1, 0), false}, {corner, most(0, -1, -1), false},
		{corner, most(0, 0, 0), true}, {corner, less(0, 0, 0), false}, {corner, less(1, 0, 0), true}, {corner, most(-1, 0, 0), false},
		{nil, most(0, 0, 0), true}, {nil, most(0, 1, 0), false}, {nil, less(0, 0, 0), false},
		{list(most(1, 1, 0), less(-1, -1, 0)), less(0, 0, 0), true}, {list(most(1, 1, 0), less(-1, -1, 0)), less(-9, 3, 5), true}, // the empty set
		{list(less(2, 1, 0)), most(2, 1, 0), true}, {list(less(2, 1, 0)), less(2, 1, 0), true}, {list(less(2, 1, 0)), most(1, 1, 0), false}, // real numbers
		{list(most(1, top, 0)), most(top, top, 0), true}, {list(most(0, 0, -1)), most(0, 0, -top), true},
	} {
		checkImplies(t, 2, c.l, c.x, c.want, api.OK)
	}
	checkImplies(t, 0, nil, most(0), true, api.OK)
	checkImplies(t, 0, nil, less(0), false, api.OK)
	checkImplies(t, 0, list(most(-1)), less(0), true, api.OK)
	checkImplies(t, 5, list(most(2, 1, 1, 1, 1, 1), most(0, -1, 0, 0, 0, 0)), most(2, 0, 1, 1, 1, 1), true, api.OK)
}

// P7.4: lines that are not valid.
func TestImpliesOfNoLine(t *testing.T) {
	for _, x := range []api.Line{{}, most(0, 1), most(0, 1, 1, 1), most(top+1, 1, 1), most(-top-1, 1, 1), most(0, top+1, 0), less(0, 0, -top-1), most(math.MinInt64, 0, 0), most(0, 0, math.MinInt64)} {
		checkImplies(t, 2, nil, x, false, api.ErrArg)
		checkImplies(t, 2, list(most(1, 1, 1)), x, false, api.ErrArg)
		checkImplies(t, 2, tooWide(), x, false, api.ErrArg)
		checkImplies(t, 2, list(less(0, 0, 0)), x, false, api.ErrArg)
		checkImplies(t, 2, times(many+1, most(1, 1, 1)), x, false, api.ErrLong)
	}
}

// P7.4: with the opposite there may be one line more than MaxLines.
func TestImpliesOfMostLines(t *testing.T) {
	full := times(many, most(1, 1, 0))
	checkImplies(t, 2, full, most(1, 1, 0), true, api.OK)
	checkImplies(t, 2, full, most(0, 1, 0), false, api.OK)
	checkImplies(t, 1, steep(many), most(1, many), true, api.OK) // 1000 pairs
	checkImplies(t, 1, steep(many), less(1, many), false, api.OK)
	checkImplies(t, 1, steep(many), most(0, -1), false, api.OK) // 1001 lines, all of them above
	checkIncludes(t, 1, steep(many), steep(many), true, api.OK)
	flat := func(count int) []api.Line {
		var l []api.Line
		for _, x := range steep(count) {
			l = append(l, most(1, x.A[0], 0))
		}
		return l
	}
	checkImplies(t, 2, flat(many-1), most(1, 1, 0), true, api.OK)
	checkImplies(t, 2, flat(many), most(1, 1, 0), false, api.ErrLong) // 1001 lines without the coordinate 1
}

// P7.4: the examples of the chapter's lists, and others.
func TestIncludes(t *testing.T) {
	corner, plane := list(most(4, 1, 1), most(0, -1, 0)), list(most(4, 1, 1), less(0, -1, 0), less(-1, 0, -1))
	nothing := list(most(0, 1, 0), less(0, -1, 0))
	for _, c := range []struct {
		a, b []api.Line
		want bool
	}{
		{corner, plane, true}, {plane, corner, false}, {corner, corner, true}, {plane, plane, true},
		{nil, corner, true}, {nil, nil, true}, {corner, nil, false}, {corner, nothing, true}, {nothing, corner, false}, {nothing, list(less(0, 0, 0)), true},
		{list(most(5, 1, 1)), corner, true}, {list(less(4, 1, 1)), corner, false}, {list(most(4, 0, 1)), corner, true},
		{list(most(5, 1, 1), most(3, 0, 1)), corner, false}, {list(most(3, 0, 1), most(5, 1, 1)), corner, false}, // one is enough
		{list(most(0, 0, 0)), nil, true}, {list(less(0, 0, 0)), nil, false},
	} {
		checkIncludes(t, 2, c.a, c.b, c.want, api.OK)
	}
	checkIncludes(t, 0, nil, list(most(-1)), true, api.OK)
	checkIncludes(t, 0, list(most(-1)), nil, false, api.OK)
}

// P7.4: errors count up to the first line that is not implied.
func TestIncludesUpToTheFirst(t *testing.T) {
	l := list(most(1, top, top))
	not, wrong := most(0, 1, 0), opposite(most(0, 2, -3))
	checkImplies(t, 2, l, not, false, api.OK)
	checkImplies(t, 2, l, wrong, false, api.ErrRange)
	checkIncludes(t, 2, list(not, wrong), l, false, api.OK)
	checkIncludes(t, 2, list(wrong, not), l, false, api.ErrRange)
	checkIncludes(t, 2, list(most(1, top, top), wrong, not), l, false, api.ErrRange)
	checkIncludes(t, 2, nil, tooWide(), true, api.OK) // nothing is left out
	checkIncludes(t, 2, list(not), tooWide(), false, api.ErrRange)
}

// P7.7: the examples of the chapter, and others.
func TestMinus(t *testing.T) {
	for _, c := range []struct {
		n    int
		a, b []api.Line
		want [][]api.Line
	}{
		{1, list(most(5, 1), most(0, -1)), list(most(3, 1), most(-2, -1)), [][]api.Line{list(less(-3, -1), most(5, 1)), list(most(0, -1), less(2, 1))}},
		{1, list(most(5, 1), most(0, -1)), list(most(-2, -1), most(3, 1)), [][]api.Line{list(most(0, -1), less(2, 1)), list(less(-3, -1), most(5, 1))}},
		{1, list(most(3, 1)), list(most(3, 1)), nil},
		{1, list(most(3, 1)), list(less(3, 1)), [][]api.Line{list(most(-3, -1), most(3, 1))}},
		{1, list(most(3, 1)), list(most(5, 2)), [][]api.Line{list(less(-5, -2), most(3, 1))}},
		{1, list(most(3, 1)), nil, nil}, // the set of no lines is that of all points
		{1, nil, list(most(6, 2)), [][]api.Line{list(less(-3, -1))}},
		{1, nil, list(most(0, 0)), nil},
		{1, list(most(6, 2)), list(less(0, 0)), [][]api.Line{list(most(3, 1))}}, // nothing is taken away
		{1, list(most(6, 2)), list(less(0, 0), most(1, 1)), [][]api.Line{list(most(3, 1))}},
		{1, list(most(6, 2)), list(most(1, 1), less(0, 0)), [][]api.Line{list(less(-1, -1), most(3, 1)), list(most(1, 1))}},
		{1, list(less(0, 1), less(0, -1)), list(most(-1, 1)), nil}, // the empty set
		{0, nil, list(most(0)), nil}, {0, nil, list(less(0)), [][]api.Line{nil}}, {0, list(most(-1)), list(less(0)), nil}, {0, nil, list(most(-1), less(0)), [][]api.Line{nil}},
		{2, list(most(0, -1, 0), most(0, 0, -1)), list(most(1, 1, 0), most(1, 0, 1)), [][]api.Line{list(less(-1, -1, 0), most(0, 0, -1)), list(most(0, -1, 0), less(-1, 0, -1), most(1, 1, 0))}},
		{2, list(most(0, -1, 0), most(0, 0, -1)), list(most(1, 1, 0), most(1, 0, 1), most(9, 1, 1)), [][]api.Line{list(less(-1, -1, 0), most(0, 0, -1)), list(most(0, -1, 0), less(-1, 0, -1), most(1, 1, 0))}}, // the last line takes nothing away
	} {
		checkMinus(t, c.n, c.a, c.b, c.want, api.OK)
	}
}

// P7.7: the rest and the opposite have up to MaxLines lines.
func TestMinusTooLong(t *testing.T) {
	a, b := most(5, 1), most(3, 1)
	above := list(less(-3, -1), most(5, 1))
	for _, c := range []struct {
		a, b int
		want [][]api.Line
		e    api.Errno
	}{
		{999, 1, [][]api.Line{above}, api.OK}, {999, 2, nil, api.ErrLong}, {1000, 0, nil, api.OK}, {1000, 1, nil, api.ErrLong},
		{1, 999, [][]api.Line{above}, api.OK}, {1, 1000, nil, api.ErrLong}, {0, 1000, [][]api.Line{list(less(-3, -1))}, api.OK}, {500, 500, [][]api.Line{above}, api.OK}, {500, 501, nil, api.ErrLong},
	} {
		got, e := Minus(1, times(c.a, a), times(c.b, b))
		checkLists(t, got, e, c.want, c.e, "Minus", c.a, c.b)
	}
}

// P7.7: of several errors the first one on the way counts, also behind results.
func TestMinusErrorsInOrder(t *testing.T) {
	rest, wrong := times(998, most(1, top, top)), opposite(most(0, 2, -3))
	checkMinus(t, 2, rest[:1], list(most(0, 1, 0)), [][]api.Line{list(less(0, -1, 0), most(1, top, top))}, api.OK)
	checkMinus(t, 2, rest[:1], list(most(0, 1, 0), wrong), nil, api.ErrRange)
	checkMinus(t, 2, rest, list(wrong, most(0, 1, 0), most(0, 1, 0)), nil, api.ErrRange)
	checkMinus(t, 2, rest, list(most(0, 1, 0), most(0, 1, 0), most(0, 1, 0)), nil, api.ErrLong)
	checkMinus(t, 2, rest, list(most(0, 1, 0), most(0, 1, 0), wrong), nil, api.ErrLong)
	checkMinus(t, 2, tooWide(), nil, nil, api.OK) // nothing is left out
	checkMinus(t, 2, slices.Concat(rest, rest), nil, nil, api.ErrLong)
}

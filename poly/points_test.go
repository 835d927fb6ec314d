package poly

import (
	"math"
	"testing"

	"foliot/api"
)

func checkHas(t *testing.T, n int, l []api.Line, p []api.Ratio, want bool, wantE api.Errno) {
	t.Helper()
	got, e := Has(n, l, p)
	checkBool(t, got, e, want, wantE, "Has", n, l, p)
}

func checkPointOf(t *testing.T, n int, l []api.Line, want []api.Ratio, wantE api.Errno) {
	t.Helper()
	got, e := Point(n, l)
	checkPoint(t, got, e, want, wantE, "Point", n, l)
}

// P7.5
func TestHas(t *testing.T) {
	plane := list(most(4, 1, 1), less(0, -1, 0), less(-1, 0, -1))
	for _, c := range []struct {
		p    []api.Ratio
		want bool
	}{
		{at(1, 2), true}, {at(1, 3), true}, {at(1, 4), false}, {at(0, 2), false}, {at(1, 1), false}, {at(-1, 2), false},
		{[]api.Ratio{r(1, 3), r(11, 3)}, true}, {[]api.Ratio{r(1, 3), r(37, 10)}, false}, {[]api.Ratio{r(1, 1000), r(1001, 1000)}, true},
	} {
		checkHas(t, 2, plane, c.p, c.want, api.OK)
	}
	checkHas(t, 2, nil, at(7, 7), true, api.OK)
	checkHas(t, 2, list(most(0, 0, 0)), at(7, 7), true, api.OK)
	checkHas(t, 2, list(less(0, 0, 0)), at(7, 7), false, api.OK)
	checkHas(t, 2, list(less(0, 1, 0)), at(0, 7), false, api.OK)
	checkHas(t, 2, list(most(0, 1, 0)), at(0, 7), true, api.OK)
	checkHas(t, 0, nil, nil, true, api.OK)
	checkHas(t, 0, list(most(0)), at(), true, api.OK)
	checkHas(t, 0, list(less(0)), nil, false, api.OK)
	checkHas(t, 5, list(most(35, 1, 2, 3, 4, 5), most(-35, -5, -4, -3, -2, -1)), at(5, 4, 3, 2, 1), true, api.OK)
	checkHas(t, 5, list(less(35, 1, 2, 3, 4, 5)), at(5, 4, 3, 2, 1), false, api.OK)
	checkHas(t, 5, list(less(35, 1, 2, 3, 4, 5)), at(5, 4, 3, 2, 0), true, api.OK)
	checkHas(t, 5, list(less(35, 5, 4, 3, 2, 1)), at(4, 2, 1, 1, 2), false, api.OK)
}

// P7.5: points that are none.
func TestHasOfNoPoint(t *testing.T) {
	for _, p := range [][]api.Ratio{
		nil, at(1), at(1, 2, 3), {r(1, 1), r(2, 4)}, {r(1, 0), r(1, 1)}, {r(1, 1), {}}, {r(1, -1), r(1, 1)}, {r(0, 2), r(0, 1)},
		{r(top+1, 1), r(0, 1)}, {r(0, 1), r(-top-1, 1)}, {r(1, top+1), r(0, 1)}, {r(0, 1), r(math.MinInt64, 1)}, {r(1, math.MinInt64), r(0, 1)},
	} {
		checkHas(t, 2, nil, p, false, api.ErrArg)
		checkHas(t, 2, list(most(9, 1, 1)), p, false, api.ErrArg)
		checkHas(t, 2, list(most(0, top, top)), p, false, api.ErrArg)
	}
	checkHas(t, 0, nil, at(0), false, api.ErrArg)
}

// P7.5: products and sums, up to the limit and beyond, in order; all lines are looked at.
func TestHasOutOfRange(t *testing.T) {
	never := less(0, 0, 0)
	for _, c := range []struct {
		l    []api.Line
		p    []api.Ratio
		want bool
		e    api.Errno
	}{
		{list(most(0, top, 0)), at(1, 0), false, api.OK}, {list(most(0, top, 0)), at(2, 0), false, api.ErrRange}, {list(most(0, -top, 0)), at(2, 0), false, api.ErrRange}, // products
		{list(most(top, top, 0)), at(1, 0), true, api.OK}, {list(most(top, top, 0)), []api.Ratio{r(1, top), r(0, 1)}, true, api.OK}, {list(most(1, 1, 0)), []api.Ratio{r(1, top), r(0, 1)}, true, api.OK},
		{list(most(0, top, 1)), at(1, 0), false, api.OK}, {list(most(0, top, 1)), at(1, 1), false, api.ErrRange}, {list(most(0, -top, -1)), at(1, 1), false, api.ErrRange}, // sums
		{list(most(0, 1, 1)), []api.Ratio{r(1, top), r(1, 2)}, false, api.ErrRange},
		{list(most(0, 1, 0)), []api.Ratio{r(1, top), r(1, 2)}, false, api.OK},
		{list(most(9, top, 1), never), at(1, 1), false, api.ErrRange}, {list(never, most(9, top, 1)), at(1, 1), false, api.ErrRange}, // behind one that is not met
		{list(never, most(0, 0, 1), most(9, top, 1)), at(1, 1), false, api.ErrRange},
	} {
		checkHas(t, 2, c.l, c.p, c.want, c.e)
	}
	checkHas(t, 3, list(most(0, top, -1, 1)), at(1, 1, 1), false, api.OK)
	checkHas(t, 3, list(most(0, top, 1, -1)), at(1, 1, 1), false, api.ErrRange) // though the sum of all is not
}

// P7.6: the example of the chapter, and others.
func TestPoint(t *testing.T) {
	for _, c := range []struct {
		n    int
		l    []api.Line
		want []api.Ratio
	}{
		{2, list(most(4, 1, 1), less(0, -1, 0), less(-1, 0, -1)), at(1, 2)},
		{0, nil, nil}, {0, list(most(5)), nil}, {1, nil, at(0)}, {5, nil, at(0, 0, 0, 0, 0)},
		{1, list(most(5, -2)), []api.Ratio{r(-5, 2)}}, {1, list(less(5, -2)), []api.Ratio{r(-3, 2)}}, // lower ends
		{1, list(most(5, 2)), []api.Ratio{r(5, 2)}}, {1, list(less(5, 2)), []api.Ratio{r(3, 2)}}, // upper ends
		{1, list(most(5, -2), most(9, 1)), []api.Ratio{r(-5, 2)}}, {1, list(most(5, -2), less(9, 1)), []api.Ratio{r(-5, 2)}}, // both
		{1, list(less(5, -2), most(9, 1)), at(-2)}, {1, list(less(5, -2), less(9, 1)), at(-2)}, {1, list(less(-1, -3), less(1, 2)), []api.Ratio{r(2, 5)}}, {1, list(less(-2, -1), most(4, 1)), at(3)},
		{1, list(most(-1, -1), most(1, 1)), at(1)}, {1, list(most(-3, -2), most(-1, -1)), []api.Ratio{r(3, 2)}}, {1, list(less(-3, -2), most(-1, -1)), []api.Ratio{r(5, 2)}}, // the end counts that leaves less
		{1, list(most(-3, -2), less(-1, -1)), []api.Ratio{r(3, 2)}}, {1, list(most(3, 2), most(1, 1)), at(1)}, {1, list(most(3, 2), less(2, 1)), []api.Ratio{r(3, 2)}}, {1, list(less(3, 2), most(2, 1)), []api.Ratio{r(1, 2)}},
		{1, list(less(0, -1), most(1, 1), less(3, 2)), []api.Ratio{r(1, 2)}}, {1, list(less(0, -1), less(1, 1), most(3, 2)), []api.Ratio{r(1, 2)}}, {1, list(less(0, -1), less(5, 2), most(7, 3)), at(1)},
		{2, list(most(0, 3, -2), most(0, -3, 2), less(-1, -1, 0), less(2, 1, 0)), []api.Ratio{r(3, 2), r(9, 4)}},
		{2, list(most(-7, -2, 0), most(0, 1, -3)), []api.Ratio{r(7, 2), r(7, 6)}}, {2, list(most(-7, -2, 0), less(0, 1, -3)), []api.Ratio{r(7, 2), r(13, 6)}},
		{2, list(most(-1, -1, 1), most(-5, 0, -1)), at(6, 5)}, // the coordinate 0 is chosen when the coordinate 1 is left out
		{2, list(less(3, 0, 1)), at(0, 2)}, {2, list(less(3, 1, 0)), at(2, 0)},
		{3, list(most(-1, -1, 0, 0), most(0, 2, -1, 0), most(0, 1, 1, -1), less(9, 0, 0, 1)), at(1, 2, 3)},
		{3, list(most(0, 0, 0, 0), most(0, 0, 0, 5), most(-1, 0, -1, 0)), at(0, 1, 0)},
		{5, list(most(-1, -1, 0, 0, 0, 0), most(0, 1, -1, 0, 0, 0), less(0, 0, 1, -1, 0, 0), most(0, 0, 0, 1, -1, 0), less(5, 0, 0, 0, 1, 1)), at(1, 1, 2, 2, 2)},
	} {
		checkPointOf(t, c.n, c.l, c.want, api.OK)
		checkHas(t, c.n, c.l, c.want, true, api.OK)
	}
}

// P7.6: empty sets.
func TestPointOfNothing(t *testing.T) {
	for _, c := range []given{
		{0, list(most(-1))}, {0, list(less(0))}, {1, list(less(0, 0))}, {1, list(less(0, 1), less(0, -1))}, {1, list(most(0, 1), less(0, -1))}, {1, list(less(0, 1), most(0, -1))}, {1, list(most(0, 1), most(-1, -1))},
		{2, list(most(-1, -1, 0), less(0, -1, 1), most(0, 1, -1))}, {5, list(less(0, 0, 0, 0, 0, 0))},
		{1, list(most(-top, 1), less(-top, -1))}, // ErrNone, not ErrRange
	} {
		checkPointOf(t, c.n, c.l, nil, api.ErrNone)
	}
}

// P7.6: every ratio on the way counts, also that of an end that does not count.
func TestPointOutOfRange(t *testing.T) {
	for _, c := range []struct {
		n    int
		l    []api.Line
		want []api.Ratio
		e    api.Errno
	}{
		{1, list(most(-top, -1)), at(top), api.OK}, {1, list(less(-top, -1)), nil, api.ErrRange}, {1, list(less(1-top, -1)), at(top), api.OK}, // plus 1
		{1, list(most(-top, 1)), at(-top), api.OK}, {1, list(less(-top, 1)), nil, api.ErrRange}, {1, list(less(1-top, 1)), at(-top), api.OK}, // minus 1
		{1, list(less(-1, -top)), nil, api.ErrRange}, {1, list(most(-1, -top)), []api.Ratio{r(1, top)}, api.OK}, {1, list(less(-1, top)), nil, api.ErrRange}, {1, list(less(1, top)), []api.Ratio{r(1-top, top)}, api.OK},
		{1, list(less(1-top, -1), most(top, 1)), nil, api.ErrRange}, {1, list(less(2-top, -1), most(top, 1)), at(top - 1), api.OK}, // the middle
		{2, list(most(-2, -1, 0), most(0, top, -1)), nil, api.ErrRange}, // a product
		{2, list(most(-1, -1, 0), most(0, top, -1)), at(1, top), api.OK},
		{2, list(most(-2, -1, 0), most(0, top, -1), most(0, -1, 0)), nil, api.ErrRange},
		{2, list(most(-2, -1, 0), most(0, 0, -1), most(0, top, -1)), nil, api.ErrRange},
		{2, list(most(-2, -1, 0), most(5, 0, -1), most(0, -top, -1)), nil, api.ErrRange}, // of a line that does not count
		{2, list(most(-2, -1, 0), most(5, 0, -1), most(0, -top, 1)), nil, api.ErrRange},  // or of the other side, which does not matter
		{2, list(most(-1, -1, 0), most(5, 0, -1), most(0, -top, -1)), at(1, -5), api.OK},
		{2, list(most(-1, -1, 0), most(-2, top, -1)), nil, api.ErrRange}, // a difference
		{2, list(most(-1, -1, 0), most(2, top, -1)), at(1, top-2), api.OK},
		{2, list(most(-1, -top, 0), most(0, 1, -2)), nil, api.ErrRange}, // a quotient
		{2, list(most(-1, -top, 0), most(0, 1, -1)), []api.Ratio{r(1, top), r(1, top)}, api.OK},
		{3, list(most(-1, -1, 0, 0), most(-1, 0, -1, 0), most(0, top, 1, -1)), nil, api.ErrRange}, // a sum
		{3, list(most(-1, -1, 0, 0), most(-1, 0, -1, 0), most(1, top, 1, -1)), nil, api.ErrRange}, // of which B is subtracted only then
		{3, list(most(-1, -1, 0, 0), most(-1, 0, -1, 0), most(0, top, -1, -1)), at(1, 1, top-1), api.OK},
		{2, tooWide(), nil, api.ErrRange}, // of Empty
	} {
		checkPointOf(t, c.n, c.l, c.want, c.e)
	}
}

// P7.8: the examples of the chapter, and others.
func TestLeast(t *testing.T) {
	corner := list(most(-1, -1, 0), less(-2, 0, -1))
	for _, c := range []struct {
		n        int
		l        []api.Line
		a        []int64
		want     api.Ratio
		attained bool
	}{
		{2, corner, []int64{2, 3}, r(8, 1), false}, {2, corner, []int64{2, 0}, r(2, 1), true}, {2, corner, []int64{0, 3}, r(6, 1), false}, {2, corner, []int64{0, 0}, r(0, 1), true}, {2, corner, []int64{1, 1}, r(3, 1), false},
		{1, list(most(1, 3)), []int64{-1}, r(-1, 3), true}, {1, list(less(1, 3)), []int64{-1}, r(-1, 3), false}, {1, list(most(1, 3)), []int64{-6}, r(-2, 1), true},
		{1, nil, []int64{0}, r(0, 1), true}, {0, nil, nil, r(0, 1), true}, {0, list(most(0)), []int64{}, r(0, 1), true}, {5, nil, make([]int64, 5), r(0, 1), true},
		{1, list(most(-3, -2), most(-1, -1)), []int64{1}, r(3, 2), true}, {1, list(less(-3, -2), most(-1, -1)), []int64{1}, r(3, 2), false}, {1, list(most(-3, -2), less(-1, -1)), []int64{1}, r(3, 2), true}, // the greatest lower bound
		{1, list(most(5, 1), most(-5, -1)), []int64{3}, r(15, 1), true}, {1, list(less(5, 1), most(-4, -1)), []int64{3}, r(12, 1), true}, {1, list(less(5, 1), less(-4, -1)), []int64{3}, r(12, 1), false},
		{1, list(less(5, 1), most(-4, -1)), []int64{-3}, r(-15, 1), false}, // the upper end of the coordinate
		{1, list(less(0, 1), less(1, -1)), []int64{0}, r(0, 1), true},      // the sum is always 0
		{2, list(most(4, 1, 1), most(0, -1, 0), most(0, 0, -1)), []int64{-1, -2}, r(-8, 1), true},
		{2, list(most(4, 1, 1), most(0, -1, 0), less(0, 0, -1)), []int64{-2, -1}, r(-8, 1), false}, // only where y is 0
		{2, list(most(4, 1, 1), most(0, -1, 0), less(0, 0, -1)), []int64{-1, -2}, r(-8, 1), true},
		{2, list(most(-1, -1, -1)), []int64{3, 3}, r(3, 1), true}, {2, list(most(-1, -2, -3)), []int64{4, 6}, r(2, 1), true},
		{5, list(most(-1, -1, 0, 0, 0, 0), most(-1, 0, -1, 0, 0, 0), most(-1, 0, 0, -1, 0, 0), most(-1, 0, 0, 0, -1, 0), most(-1, 0, 0, 0, 0, -1)), []int64{1, 2, 3, 4, 5}, r(15, 1), true},
		{1, list(most(-1, -1)), []int64{top}, r(top, 1), true}, {1, list(most(1, 1)), []int64{-top}, r(-top, 1), true}, {1, list(most(-1, -top)), []int64{1}, r(1, top), true}, {1, list(most(-top, -top)), []int64{top}, r(top, 1), true},
	} {
		checkLeast(t, c.n, c.l, c.a, c.want, c.attained, api.OK)
	}
}

// P7.8: no number is left, or there is no lower bound.
func TestLeastOfNothing(t *testing.T) {
	for _, c := range []struct {
		n int
		l []api.Line
		a []int64
	}{
		{1, list(most(1, 1)), []int64{1}}, {1, nil, []int64{1}}, {1, nil, []int64{-1}}, {2, list(most(-1, -1, 0)), []int64{1, 1}}, {2, list(most(-1, -1, -1)), []int64{2, 1}}, // no lower bound
		{1, list(most(1, 1), most(-2, -1)), []int64{1}}, {1, list(less(1, 1), most(-1, -1)), []int64{1}}, {1, list(most(1, 1), less(-1, -1)), []int64{1}}, {1, list(less(1, 1), less(-1, -1)), []int64{-3}}, // nothing between
		{1, list(most(1, 1), most(-2, -1)), []int64{0}}, {0, list(less(0)), nil}, {0, list(most(-1)), nil}, {1, list(less(0, 0)), []int64{1}}, {5, list(less(0, 0, 0, 0, 0, 0)), make([]int64, 5)}, // a line whose A is 0
		{2, list(less(0, 1, 1), less(0, -1, -1)), []int64{1, 1}}, {2, list(less(0, 1, 1), less(0, -1, -1)), []int64{1, -1}}, {2, list(most(0, 1, 1), less(0, -1, -1)), []int64{0, 0}},
	} {
		checkLeast(t, c.n, c.l, c.a, api.Ratio{}, false, api.ErrNone)
	}
}

// P7.8: factors that are none, lines that are too many, and numbers that are too great.
func TestLeastErrors(t *testing.T) {
	for _, a := range [][]int64{nil, {1}, {1, 2, 3}, {top + 1, 0}, {0, -top - 1}, {math.MinInt64, 0}, {0, math.MaxInt64}} {
		checkLeast(t, 2, nil, a, api.Ratio{}, false, api.ErrArg)
		checkLeast(t, 2, list(less(0, 0, 0)), a, api.Ratio{}, false, api.ErrArg)
		checkLeast(t, 2, tooWide(), a, api.Ratio{}, false, api.ErrArg)
	}
	checkLeast(t, 0, nil, []int64{0}, api.Ratio{}, false, api.ErrArg)
	checkLeast(t, 1, steep(many), []int64{0}, r(0, 1), true, api.OK) // 1002 lines, but only 2 are left
	checkLeast(t, 1, times(many, most(-1, -1)), []int64{1}, r(1, 1), true, api.OK)
	checkLeast(t, 1, steep(many-1), []int64{-1}, r(-1, 999), true, api.OK) // 1000 pairs
	checkLeast(t, 1, steep(many), []int64{-1}, api.Ratio{}, false, api.ErrLong)
	checkLeast(t, 1, list(most(-2, -1)), []int64{top}, api.Ratio{}, false, api.ErrRange)
	checkLeast(t, 1, list(most(-1, -top)), []int64{top}, r(1, 1), true, api.OK)
	checkLeast(t, 1, list(most(-1, -top)), []int64{top - 1}, r(top-1, top), true, api.OK)
	checkLeast(t, 2, tooWide(), []int64{0, 0}, api.Ratio{}, false, api.ErrRange)
}

package poly

import (
	"math"
	"slices"
	"testing"

	"foliot/api"
)

func checkWithout(t *testing.T, n int, l []api.Line, i int, want []api.Line, wantE api.Errno) {
	t.Helper()
	got, e := Without(n, l, i)
	checkList(t, got, e, want, wantE, "Without", n, l, i)
}

// P7.2: the example of the chapter, and others.
func TestWithout(t *testing.T) {
	for _, c := range []struct {
		n    int
		l    []api.Line
		i    int
		want []api.Line
	}{
		{2, list(most(4, 1, 1), most(0, -1, 0), less(-1, 0, -1)), 1, list(most(0, -1), less(3, 1))},
		{2, list(most(4, 1, 1), most(0, -1, 0), less(-1, 0, -1)), 0, list(less(-1, -1), most(4, 1))},
		{2, list(most(4, 1, 1), most(0, -1, 0)), 1, list(most(0, -1))}, // no pairs
		{2, list(most(4, 1, 1), most(5, 2, 3)), 0, nil},
		{2, list(most(6, 2, 4), most(3, 1, -6)), 1, list(most(3, 1))}, // 3 times the first one, 2 times the second one: 8 x at most 24
		{2, list(most(7, 3, 2), most(1, 1, -3)), 1, list(most(23, 11))},
		{3, list(most(1, 1, 2, 3), most(1, 4, -5, 6)), 1, list(most(7, 13, 27))}, // the ones beside it stay in their order
		{3, list(most(1, 1, 2, 0), less(1, 0, 0, 1)), 0, list(less(1, 0, 1))},
		{3, list(most(1, 1, 2, 0), less(1, 0, 0, 1)), 2, list(most(1, 1, 2))},
		{2, list(most(3, 1, 2), most(3, 1, -2)), 1, list(most(3, 1))},
		{2, list(less(3, 1, 2), most(3, 1, -2)), 1, list(less(3, 1))}, // strict if one of both is
		{2, list(most(3, 1, 2), less(3, 1, -2)), 1, list(less(3, 1))},
		{2, list(less(3, 1, 2), less(3, 1, -2)), 1, list(less(3, 1))},
		{1, list(most(2, 1), most(-2, -1)), 0, nil},
		{1, list(most(2, 1), less(-2, -1)), 0, list(less(0))},
		{1, list(most(2, 1), most(-3, -1)), 0, list(less(0))},
		{1, list(most(0, 0)), 0, nil},
		{1, list(most(-1, 0)), 0, list(less(0))},
		{2, list(most(0, 1, 0), less(0, 0, 0), most(0, -1, 0)), 1, list(less(0, 0))},
		{1, nil, 0, nil},
		{5, list(), 4, nil},
		{5, list(most(1, 1, 0, 0, 0, 1), most(1, 0, 1, 0, 0, -1), less(9, 9, 9, 9, 9, 0)), 4, list(most(2, 1, 1, 0, 0), less(1, 1, 1, 1, 1))},
	} {
		checkWithout(t, c.n, c.l, c.i, c.want, api.OK)
	}
}

// P7.2: the tidy list, seen through a coordinate of which no line speaks.
func TestTidyLists(t *testing.T) {
	for _, c := range []struct{ l, want []api.Line }{
		{list(most(6, 4, 2)), list(most(3, 2, 1))}, {list(less(6, -4, 0)), list(less(3, -2, 0))}, {list(most(0, 0, 9)), list(most(0, 0, 1))}, // lowest terms
		{list(most(3, 2, 4)), list(most(3, 2, 4))},                                     // B has no divisor with the others
		{list(most(3, 2, 0), most(1, 1, 0)), list(most(1, 1, 0), most(3, 2, 0))},       // different A, though x at most 1 is all that matters
		{list(most(4, 2, 0), most(1, 1, 0)), list(most(1, 1, 0))},                      // the least B
		{list(most(1, 1, 0), most(2, 1, 0)), list(most(1, 1, 0))},                      //
		{list(less(2, 1, 0), most(1, 1, 0)), list(most(1, 1, 0))},                      // also if a greater one is strict
		{list(most(1, 1, 0), less(1, 1, 0)), list(less(1, 1, 0))},                      // a strict one of the same B
		{list(less(1, 1, 0), most(1, 1, 0)), list(less(1, 1, 0))},                      //
		{list(most(4, 2, 0), most(6, 3, 0), less(2, 1, 0)), list(less(2, 1, 0))},       //
		{list(most(-1, 1, 0), less(0, 1, 0)), list(most(-1, 1, 0))},                    //
		{times(9, less(5, 1, 5)), list(less(5, 1, 5))},                                 //
		{list(most(0, 1, 0), most(0, -1, 0)), list(most(0, -1, 0), most(0, 1, 0))},     // ascending order, at the first element that differs
		{list(most(0, 2, 1), most(0, 1, 2)), list(most(0, 1, 2), most(0, 2, 1))},       //
		{list(most(9, 1, 1), most(0, 1, -1)), list(most(0, 1, -1), most(9, 1, 1))},     //
		{list(most(-9, 1, 1), most(0, 0, 9)), list(most(0, 0, 1), most(-9, 1, 1))},     // B does not matter for the order
		{list(most(0, 0, 0), less(1, 0, 0), most(1, 0, 0)), nil},                       // 0 meets them
		{list(most(1, 1, 1), most(-1, 0, 0), most(2, 2, 1)), list(less(0, 0, 0))},      // 0 does not meet one
		{list(less(0, 0, 0)), list(less(0, 0, 0))},                                     //
		{list(less(-7, 0, 0), most(-1, 0, 0)), list(less(0, 0, 0))},                    //
		{list(most(1, 1, 1), less(0, 0, 0)), list(less(0, 0, 0))},                      //
		{list(most(0, top, 0), most(top, 0, top)), list(most(1, 0, 1), most(0, 1, 0))}, //
		{list(most(top, top-1, 0)), list(most(top, top-1, 0))},                         //
	} {
		var longer []api.Line
		for _, x := range c.l {
			longer = append(longer, api.Line{A: append(slices.Clone(x.A), 0), B: x.B, Strict: x.Strict})
		}
		checkWithout(t, 3, longer, 2, c.want, api.OK)
	}
}

// P7.2: coordinates that are none.
func TestWithoutNoCoordinate(t *testing.T) {
	for _, n := range []int{0, 1, 2, 5} {
		for _, i := range []int{-1, n, n + 1, 5, 6, math.MaxInt, math.MinInt, 1 << 32} {
			if i >= 0 && i < n {
				continue
			}
			checkWithout(t, n, nil, i, nil, api.ErrArg)
			checkWithout(t, n, list(most(1, make([]int64, n)...)), i, nil, api.ErrArg)
		}
	}
	checkWithout(t, 2, with(times(many, most(1, 1, 1)), most(1, 1, -1)), 2, nil, api.ErrLong) // of Check
	checkWithout(t, 2, with(times(40, most(1, 1, 1)), times(40, most(1, 1, -1))...), 2, nil, api.ErrArg)
	checkWithout(t, 2, tooWide(), -1, nil, api.ErrArg)
}

// P7.2: lines without the coordinate and pairs are counted, all of them, also
// those that the tidy list does not have.
func TestWithoutTooLong(t *testing.T) {
	above, below, beside := most(1, 1, 1), most(1, 1, -1), most(1, 1, 0)
	for _, c := range []struct {
		above, below, beside int
		want                 api.Errno
	}{
		{25, 40, 0, api.OK}, {40, 25, 0, api.OK}, {25, 40, 1, api.ErrLong}, {31, 32, 8, api.OK}, {31, 32, 9, api.ErrLong}, {7, 143, 0, api.ErrLong},
		{0, 0, 1000, api.OK}, {1, 1, 998, api.OK}, {1, 2, 997, api.OK}, {2, 2, 996, api.OK}, {1, 500, 499, api.OK}, {2, 499, 499, api.ErrLong},
		{1, 999, 0, api.OK}, {999, 1, 0, api.OK}, {1000, 0, 0, api.OK}, {0, 1000, 0, api.OK}, {2, 500, 0, api.OK}, {2, 501, 0, api.ErrLong}, {500, 500, 0, api.ErrLong},
	} {
		l := slices.Concat(times(c.above, above), times(c.below, below), times(c.beside, beside))
		var want []api.Line
		if c.want == api.OK && (c.beside > 0 || c.above > 0 && c.below > 0) {
			want = list(most(1, 1))
		}
		checkWithout(t, 2, l, 1, want, c.want)
	}
	checkWithout(t, 2, with(times(25, most(1, top, top)), times(41, most(0, 2, -3))...), 1, nil, api.ErrLong) // not ErrRange
	checkWithout(t, 2, with(times(25, above, most(-1, 0, 0)), times(41, below)...), 1, nil, api.ErrLong)      // also if the set is empty
}

// P7.2: numbers of sums, in lowest terms, up to the limit and beyond.
func TestWithoutOutOfRange(t *testing.T) {
	for _, c := range []struct {
		l    []api.Line
		want []api.Line
		e    api.Errno
	}{
		{tooWide(), nil, api.ErrRange},
		{list(most(1, top, 1), most(0, 0, -1)), list(most(1, top)), api.OK},
		{list(most(1, top, 1), most(0, 1, -1)), nil, api.ErrRange},
		{list(most(1, -top, 1), most(0, 0, -1)), list(most(1, -top)), api.OK},
		{list(most(1, -top, 1), most(0, -1, -1)), nil, api.ErrRange},
		{list(most(2, top, 1), most(0, 1, -1)), list(most(1, 1<<30)), api.OK}, // 2^31 and 2, in lowest terms
		{list(most(top, 1, 1), most(0, 0, -1)), list(most(top, 1)), api.OK},
		{list(most(top, 1, 1), most(1, 0, -1)), nil, api.ErrRange},
		{list(most(-top, 1, 1), most(0, 0, -1)), list(most(-top, 1)), api.OK},
		{list(most(-top, 1, 1), most(-1, 0, -1)), nil, api.ErrRange},
		{list(most(top, 1, 1), most(1, 1, -1)), list(most(1<<30, 1)), api.OK},
		{list(most(top, 0, 1), most(top, 0, -1)), nil, api.OK}, // 0 is at most 1
		{list(most(-top, 0, 1), most(-top, 0, -1)), list(less(0, 0)), api.OK},
		{list(most(top, top, top), most(top, top, -top)), list(most(1, 1)), api.OK},
		{list(most(-top, top, top), most(-top, top, -top)), list(most(-1, 1)), api.OK},
		{list(most(top, top, top), most(top, top, 1-top)), list(most(1, 1)), api.OK},
		{list(most(top, top, top), most(top, top-1, 1-top)), nil, api.ErrRange},
		{list(most(-top, -top, top), most(-top, -top, 1-top)), list(most(-1, -1)), api.OK},
		{list(most(-top, 0, 0), most(-1, top, 1), most(0, 1, -1)), nil, api.ErrRange},              // also if 0 does not meet a line
		{list(most(0, 0, 1), most(-1, 0, -1), most(1, top, 2), most(0, 1, -3)), nil, api.ErrRange}, // or a sum before it
		{list(most(1, top, 1), most(0, 1, -1), most(0, 1, 0)), nil, api.ErrRange},                  // or if the sum would not be left
	} {
		checkWithout(t, 2, c.l, 1, c.want, c.e)
	}
}

// P7.3: the examples of the chapter, and others.
func TestEmpty(t *testing.T) {
	for _, c := range []struct {
		n    int
		l    []api.Line
		want bool
	}{
		{1, list(most(2, 1), most(-2, -1)), false}, {1, list(most(2, 1), less(-2, -1)), true}, {1, list(less(2, 1), most(-2, -1)), true}, {1, list(most(2, 1), most(-3, -1)), true},
		{1, list(most(3, 2), most(-1, -1)), false}, {1, list(most(1, 2), most(-1, -1)), true},
		{0, nil, false}, {0, list(most(0)), false}, {0, list(less(1)), false}, {0, list(less(0)), true}, {0, list(most(-1)), true}, {0, list(most(5), most(-1)), true},
		{1, list(less(0, 0)), true}, {1, list(most(0, 0)), false}, {5, nil, false}, {5, list(less(0, 0, 0, 0, 0, 0)), true},
		{2, list(most(0, 1, 1), less(0, -1, -1)), true}, {2, list(most(0, 1, 1), most(0, -1, -1)), false},
		{2, list(most(4, 1, 1), most(-3, -1, 0), most(-2, 0, -1)), true}, {2, list(most(5, 1, 1), most(-3, -1, 0), most(-2, 0, -1)), false},
		{3, list(less(0, 1, -1, 0), less(0, 0, 1, -1), less(0, -1, 0, 1)), true}, {3, list(most(0, 1, -1, 0), most(0, 0, 1, -1), most(0, -1, 0, 1)), false}, // a circle
		{5, list(most(0, 1, -1, 0, 0, 0), most(0, 0, 1, -1, 0, 0), most(0, 0, 0, 1, -1, 0), most(0, 0, 0, 0, 1, -1), most(-1, -1, 0, 0, 0, 1)), true},
		{5, list(most(0, 1, -1, 0, 0, 0), most(0, 0, 1, -1, 0, 0), most(0, 0, 0, 1, -1, 0), most(0, 0, 0, 0, 1, -1), most(0, -1, 0, 0, 0, 1)), false},
		{1, with(times(500, most(2, 1)), times(500, most(-2, -1))...), false}, // begins with the tidy list, which has 2 lines
		{1, steepPairs(25, 40), false}, // 1000 pairs
	} {
		got, e := Empty(c.n, c.l)
		checkBool(t, got, e, c.want, api.OK, "Empty", c.n, c.l)
	}
}

// steepPairs returns lines of one coordinate: the tidy list has all of them.
func steepPairs(above, below int) []api.Line {
	l := steep(above)
	for _, x := range steep(below) {
		l = append(l, most(1, -x.A[0]))
	}
	return l
}

// P7.3, P7.4, P7.6, P7.7, P7.8: the errors of Without that are met on the way count.
func TestErrorsOnTheWay(t *testing.T) {
	for _, c := range []struct {
		n    int
		l    []api.Line
		want api.Errno
	}{
		{2, tooWide(), api.ErrRange}, {2, with(tooWide(), less(0, 1, 0), less(0, -1, 0)), api.ErrRange}, // also if the set is empty
		{1, steepPairs(26, 40), api.ErrLong}, {1, steepPairs(500, 500), api.ErrLong}, {1, with(steepPairs(500, 499), most(-2, 1)), api.ErrLong},
		{1, steepPairs(25, 39), api.OK}, {2, list(most(1, 1, 1), most(1, -1, 2)), api.OK},
	} {
		zeros := make([]int64, c.n)
		isMet := c.want == api.OK
		empty, e := Empty(c.n, c.l)
		checkBool(t, empty, e, false, c.want, "Empty", c.n, c.l)
		implied, e := Implies(c.n, c.l, most(-1, zeros...)) // the opposite is met by all points
		checkBool(t, implied, e, false, c.want, "Implies", c.n, c.l)
		implied, e = Includes(c.n, list(most(-1, zeros...)), c.l)
		checkBool(t, implied, e, false, c.want, "Includes", c.n, c.l)
		p, e := Point(c.n, c.l)
		if e != c.want || (len(p) > 0) != isMet {
			t.Errorf("Point(%d, %v): %v, %d", c.n, c.l, p, e)
		}
		parts, e := Minus(c.n, c.l, list(most(-1, zeros...)))
		if e != c.want || (len(parts) > 0) != isMet {
			t.Errorf("Minus(%d, %v): %v, %d", c.n, c.l, parts, e)
		}
		if isMet {
			checkLeast(t, c.n, c.l, zeros, r(0, 1), true, api.OK)
		} else {
			checkLeast(t, c.n, c.l, zeros, api.Ratio{}, false, c.want)
		}
	}
}

// P7.3: the coordinates are left out from the last one to the first one. In
// another order there would be an error where there is none, and none where there is one.
func TestOrderOfCoordinates(t *testing.T) {
	for _, c := range []struct {
		n    int
		l    []api.Line
		want api.Errno
	}{
		{2, tooWide(), api.ErrRange}, {2, list(most(1, top, top), most(0, -3, 2)), api.OK},
		{3, list(most(1, top, top, 0), most(0, -3, 2, 0)), api.OK}, {3, list(most(1, top, 0, top), most(0, -3, 0, 2)), api.OK}, {3, list(most(1, 0, top, top), most(0, 0, -3, 2)), api.OK},
		{3, list(most(1, top, top, 0), most(0, 2, -3, 0)), api.ErrRange}, {3, list(most(1, top, 0, top), most(0, 2, 0, -3)), api.ErrRange}, {3, list(most(1, 0, top, top), most(0, 0, 2, -3)), api.ErrRange},
	} {
		empty, e := Empty(c.n, c.l)
		checkBool(t, empty, e, false, c.want, "Empty", c.n, c.l)
	}
}

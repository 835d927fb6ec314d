package federation

import (
	"math/rand/v2"
	"slices"
	"testing"

	"foliot/api"
	"foliot/zone"
)

func r(num, den int64) api.Ratio { return api.Ratio{Num: num, Den: den} }

// P5.6
func TestUpAndDown(t *testing.T) {
	for _, c := range []struct{ l, up, down string }{
		{"", "", ""}, {"[0,3] [4,5]", "[0,any) [4,any)", "[0,3] [0,5]"}, {"[4,5] (0,3)", "[4,any) (0,any)", "[0,5] [0,3)"},
		{"(4,any) (4,any) [7,7]", "(4,any) (4,any) [7,any)", "[0,any) [0,any) [0,7]"}, {"[1073741824,any) (1073741824,any)", "[1073741824,any) (1073741824,any)", "[0,any) [0,any)"},
	} {
		l, e := Up(spans(c.l))
		checkList(t, l, e, spans(c.up), api.OK, "Up", c.l)
		l, e = Down(spans(c.l))
		checkList(t, l, e, spans(c.down), api.OK, "Down", c.l)
	}
	point := made(t, 2, says(1, 0, weak(5)), says(0, 1, weak(-5)), says(2, 0, weak(3)), says(0, 2, weak(-3)))
	ahead := []api.Constraint{says(1, 2, weak(2)), says(2, 1, weak(-2))}
	l, e := Up([]api.Zone{point, all(2)})
	checkList(t, l, e, []api.Zone{made(t, 2, append(ahead, says(0, 2, weak(-3)))...), all(2)}, api.OK, "Up of a point")
	l, e = Down([]api.Zone{all(2), point})
	checkList(t, l, e, []api.Zone{all(2), made(t, 2, append(ahead, says(2, 0, weak(3)))...)}, api.OK, "Down of a point")
	many := times(api.MaxZones, all(api.MaxDim))
	l, e = Up(many)
	checkList(t, l, e, many, api.OK, "Up of MaxZones zones")
	l, e = Down(many)
	checkList(t, l, e, many, api.OK, "Down of MaxZones zones")
}

// P5.6
func TestUpAndDownOfEachZone(t *testing.T) {
	eachPair(3, dimensions(), sizes(), 20, func(g *rand.Rand, a, b []api.Zone) {
		for what, f := range map[string]struct {
			list func([]api.Zone) ([]api.Zone, api.Errno)
			one  func(api.Zone) (api.Zone, api.Errno)
		}{"Up": {Up, zone.Up}, "Down": {Down, zone.Down}} {
			var want maker
			for _, z := range a {
				want.put(f.one(z))
			}
			l, e := f.list(a)
			checkList(t, l, e, want.l, want.e, what, a)
		}
	})
}

// P5.6
func TestHas(t *testing.T) {
	for _, c := range []struct {
		l    string
		p    api.Ratio
		want bool
	}{
		{"[0,3] [4,5]", r(3, 1), true}, {"[0,3] [4,5]", r(7, 2), false}, {"[0,3] [4,5]", r(9, 2), true}, {"[4,5] [0,3]", r(9, 2), true}, {"[4,5] [0,3]", r(5, 2), true},
		{"[0,3) (3,5]", r(3, 1), false}, {"[0,3) (3,5]", r(299, 100), true}, {"[0,3) (3,5] [3,3]", r(3, 1), true}, {"", r(3, 1), false}, {"[0,3]", r(31, 10), false}, {"(0,any)", r(0, 1), false}, {"(0,any)", r(1, api.MaxRatio), true},
	} {
		in, e := Has(spans(c.l), []api.Ratio{c.p})
		checkBool(t, in, e, c.want, api.OK, "Has", c.l, c.p)
	}
	boxes := []api.Zone{box(t, 0, 1, 0, 1), box(t, 3, 4, 3, 4)}
	for _, c := range []struct {
		p    []api.Ratio
		want bool
	}{{[]api.Ratio{r(1, 2), r(1, 1)}, true}, {[]api.Ratio{r(7, 2), r(3, 1)}, true}, {[]api.Ratio{r(1, 2), r(7, 2)}, false}, {[]api.Ratio{r(2, 1), r(2, 1)}, false}} {
		in, e := Has(boxes, c.p)
		checkBool(t, in, e, c.want, api.OK, "Has", boxes, c.p)
	}
	in, e := Has(append(times(api.MaxZones-1, spans("[0,3]")...), spans("[5,6]")...), []api.Ratio{r(11, 2)})
	checkBool(t, in, e, true, api.OK, "Has of MaxZones zones")
}

// P5.6: the errors of zone.Has, if there is a zone to ask.
func TestErrorsOfHas(t *testing.T) {
	two := []api.Zone{all(2), box(t, 0, 1, 0, 1)}
	for _, c := range []struct {
		p []api.Ratio
		e api.Errno
	}{
		{nil, api.ErrArg}, {[]api.Ratio{r(1, 1)}, api.ErrArg}, {[]api.Ratio{r(1, 1), r(1, 1), r(1, 1)}, api.ErrArg}, {[]api.Ratio{r(1, 1), r(-1, 1)}, api.ErrArg},
		{[]api.Ratio{r(1, 1), {}}, api.ErrArg}, {[]api.Ratio{r(2, 4), r(1, 1)}, api.ErrArg}, {[]api.Ratio{r(api.MaxRatio+1, 1), r(1, 1)}, api.ErrArg},
		{[]api.Ratio{r(1, api.MaxRatio), r(1, api.MaxRatio-1)}, api.ErrRange}, {[]api.Ratio{r(api.MaxRatio, 1), r(1, 2)}, api.ErrRange},
	} {
		for _, l := range [][]api.Zone{two, {two[1], two[0]}, two[:1], two[1:]} {
			in, e := Has(l, c.p)
			checkBool(t, in, e, false, c.e, "Has", l, c.p)
		}
		for _, l := range [][]api.Zone{nil, {}} {
			in, e := Has(l, c.p)
			checkBool(t, in, e, false, api.OK, "Has of nothing", c.p)
		}
	}
}

// P5.7
func TestWithin(t *testing.T) {
	for _, c := range []struct{ good, bad, want string }{
		{"[5,6]", "[2,3]", "(3,6]"}, {"[5,6]", "[8,9]", "[0,6]"}, {"[5,6]", "[6,7]", "[0,6)"}, {"[5,6]", "", "[0,6]"}, {"", "[5,6]", ""}, {"", "", ""},
		{"[5,6]", "[4,7]", ""}, {"[5,6]", "[2,3] (5,7]", "(3,5]"}, {"[5,6]", "(5,7] [2,3]", "(3,5]"}, {"[5,6]", "[5,7]", ""}, {"(5,6]", "[2,5]", "(5,6]"}, {"(5,6]", "[2,5)", "[5,6]"}, {"(5,6)", "[6,7]", "[0,6)"},
		// Part of what is good is behind what is bad.
		{"[5,9]", "[6,7]", "(7,9] [0,6)"}, {"[5,9]", "(6,7)", "[7,9] [0,6]"}, {"[5,any)", "[6,7]", "(7,any) [0,6)"}, {"[5,any)", "[6,any)", "[0,6)"}, {"[0,any)", "[0,any)", ""},
		{"[5,9]", "[6,7] [2,3]", "(7,9] (3,6)"}, {"[5,9]", "[6,7] (7,8]", "(8,9] [0,6)"},
		// For each good zone in order, all the bad ones.
		{"[5,6] [1,2]", "[3,4]", "(4,6] [0,2]"}, {"[1,2] [5,6] [5,6]", "[3,4]", "[0,2] (4,6] (4,6]"}, {"[5,6] [3,4]", "", "[0,6] [0,4]"}, {"[5,6] [3,3]", "[3,3]", "(3,6]"},
	} {
		l, e := Within(spans(c.good), spans(c.bad))
		checkList(t, l, e, spans(c.want), api.OK, "Within", c.good, c.bad)
	}
}

// P5.7: of two clocks, where the bad zone is on the way of a part only.
func TestWithinOfTwoClocks(t *testing.T) {
	good, bad := box(t, 5, 6, 5, 6), box(t, 2, 3, 0, 3)
	down, ahead := made(t, 2, says(1, 0, weak(6)), says(2, 0, weak(6)), says(1, 2, weak(1)), says(2, 1, weak(1))), made(t, 2, says(1, 0, weak(3)), says(2, 0, weak(3)), says(1, 2, weak(3)), says(2, 1, weak(1)))
	parts, e := Minus([]api.Zone{down}, []api.Zone{ahead})
	if e != api.OK || len(parts) != 2 {
		t.Fatalf("Minus: %v, %d", parts, e)
	}
	l, e := Within([]api.Zone{good}, []api.Zone{bad})
	checkList(t, l, e, []api.Zone{
		made(t, 2, says(1, 0, weak(6)), says(2, 0, weak(6)), says(0, 1, strict(-3)), says(1, 2, weak(1)), says(2, 1, weak(1))),
		made(t, 2, says(1, 0, weak(3)), says(0, 2, strict(-3)), says(2, 1, weak(1))),
	}, api.OK, "Within of boxes")
	checkList(t, l, e, parts, api.OK, "Within of boxes")
	l, e = Within([]api.Zone{good}, []api.Zone{box(t, 6, 7, 5, 5)})
	want, wantE := withinByWords([]api.Zone{good}, []api.Zone{box(t, 6, 7, 5, 5)})
	checkList(t, l, e, want, wantE, "Within up to a box")
	if len(l) < 2 {
		t.Errorf("Within up to a box: only %v", l)
	}
}

// P5.7: lists that become too long: all together, and on the way; and MaxZones zones.
func TestWithinOfManyZones(t *testing.T) {
	nine, far := spans("[0,9]"), spans("[20,21]")
	// These leave three zones of each [0,9]: (6,9], (3,5) and [0,2).
	three, half := spans("[2,3] [5,6]"), api.MaxZones/2
	for _, c := range []struct {
		what      string
		good, bad []api.Zone
		size      int
		e         api.Errno
	}{
		{"MaxZones good ones", times(api.MaxZones, nine...), far, api.MaxZones, api.OK}, {"MaxZones bad ones", far, times(api.MaxZones, nine...), 1, api.OK}, {"MaxZones good ones and none bad", times(api.MaxZones, nine...), nil, api.MaxZones, api.OK},
		{"twice half of them", times(half, nine...), spans("[2,3]"), api.MaxZones, api.OK}, {"twice half of them, and one", append(times(half, nine...), far...), spans("[2,3]"), 0, api.ErrLong}, {"twice half of them, and none", append(times(half, nine...), spans("[2,3]")...), spans("[2,3]"), api.MaxZones, api.OK},
		{"three of each", times(666, nine...), three, 3 * 666, api.OK}, {"three of too many", times(667, nine...), three, 0, api.ErrLong},
		{"three of some and two others", append(times(666, nine...), far[0], far[0]), three, api.MaxZones, api.OK},
		{"three of some and three others", append(times(666, nine...), far[0], far[0], far[0]), three, 0, api.ErrLong},
	} {
		l, e := Within(c.good, c.bad)
		if e != c.e || len(l) != c.size {
			t.Errorf("Within, %s: %d zones, %d; want %d, %d", c.what, len(l), e, c.size, c.e)
		}
	}
}

// P5.7: the list of one good zone is too long on the way, though a bad zone behind would leave nothing.
func TestWithinTooLongOnTheWay(t *testing.T) {
	good, bad := []api.Zone{cube(t, weak(0), weak(90))}, []api.Zone{cube(t, weak(-20), weak(30)), cube(t, weak(-50), weak(70))}
	everything := []api.Zone{all(api.MaxDim)}
	for _, c := range []struct {
		what string
		bad  []api.Zone
		size int
		e    api.Errno
	}{
		{"one", bad[:1], 110, api.OK}, {"the other", bad[1:], 110, api.OK}, {"both", bad, 0, api.ErrLong},
		{"both and then all", slices.Concat(bad, everything), 0, api.ErrLong}, {"all and then both", slices.Concat(everything, bad), 0, api.OK}, {"all in between", slices.Insert(slices.Clone(bad), 1, everything[0]), 0, api.OK},
	} {
		if l, e := Within(good, c.bad); e != c.e || len(l) != c.size {
			t.Errorf("Within, %s: %d zones, %d", c.what, len(l), e)
		}
	}
}

// P5.7: zones that are out of range, also where nothing would be left.
func TestWithinOutOfRange(t *testing.T) {
	high, corner := tower(t, most), made(t, 2, says(1, 0, weak(5)), says(2, 0, weak(7)))
	low := made(t, 2, says(1, 0, weak(5)))
	for _, c := range []struct {
		what      string
		good, bad []api.Zone
		e         api.Errno
	}{
		{"the rest", []api.Zone{high}, []api.Zone{corner}, api.ErrRange}, {"the intersection", []api.Zone{high}, []api.Zone{low}, api.ErrRange}, {"none bad", []api.Zone{high}, nil, api.OK},
		{"nothing left before", []api.Zone{high}, []api.Zone{all(2), corner}, api.ErrRange}, {"nothing left behind", []api.Zone{high}, []api.Zone{corner, all(2)}, api.ErrRange},
		{"another zone first", []api.Zone{corner, high}, []api.Zone{corner}, api.ErrRange}, {"in range", []api.Zone{tower(t, most-5)}, []api.Zone{corner}, api.OK},
		{"too long behind", append([]api.Zone{high}, times(api.MaxZones-1, all(2))...), []api.Zone{corner}, api.ErrRange}, {"too long before", append(times(api.MaxZones-1, all(2)), high), []api.Zone{corner}, api.ErrLong},
	} {
		l, e := Within(c.good, c.bad)
		want, wantE := withinByWords(c.good, c.bad)
		checkList(t, l, e, want, wantE, "Within, "+c.what)
		if e != c.e {
			t.Errorf("Within, %s: %d; want %d", c.what, e, c.e)
		}
	}
}

// P5.7: also in the words of the document.
func TestWithinInWords(t *testing.T) {
	told, parts := map[api.Errno]int{}, 0
	eachPair(4, dimensions(), sizes(), 15, func(g *rand.Rand, good, bad []api.Zone) {
		l, e := Within(good, bad)
		want, wantE := withinByWords(good, bad)
		told[e]++
		if len(l) > len(good) {
			parts++
		}
		checkList(t, l, e, want, wantE, "Within", good, bad)
	})
	if told[api.OK] < 300 || told[api.ErrRange] < 20 || parts < 50 {
		t.Errorf("told: %v, with more zones: %d", told, parts)
	}
}

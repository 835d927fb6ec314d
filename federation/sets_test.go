package federation

import (
	"math/rand/v2"
	"slices"
	"testing"

	"foliot/api"
	"foliot/zone"
)

// P5.2
func TestMinus(t *testing.T) {
	for _, c := range []struct{ a, b, want string }{
		{"[0,5]", "[2,3]", "[0,2) (3,5]"}, {"[0,5]", "[6,7]", "[0,5]"}, {"[2,3]", "[0,5]", ""}, {"[0,5]", "", "[0,5]"}, {"", "[0,5]", ""},
		{"[0,5]", "[0,5]", ""}, {"[0,any)", "[0,any)", ""}, {"[0,any)", "[3,any)", "[0,3)"}, {"(1,any)", "[0,3)", "[3,any)"}, {"[0,any)", "(2,3)", "[0,2] [3,any)"}, {"[0,any)", "[0,0]", "(0,any)"},
		// They touch: in a point of both, of one, of none.
		{"[0,5]", "[5,7]", "[0,5)"}, {"[0,5]", "(5,7]", "[0,5]"}, {"[0,5)", "[5,7]", "[0,5)"}, {"[5,7]", "[0,5]", "(5,7]"}, {"[5,7]", "[0,5)", "[5,7]"},
		// Their ends are equal, and differ in being strict.
		{"[1,5]", "(1,5)", "[1,1] [5,5]"}, {"(1,5)", "[1,5]", ""}, {"[1,5]", "[1,5)", "[5,5]"}, {"[1,5]", "(1,5]", "[1,1]"},
		// Several zones, in order.
		{"[0,5] [9,9] [2,4]", "[2,3]", "[0,2) (3,5] [9,9] (3,4]"}, {"[0,9]", "[2,3] [5,6]", "[0,2) (3,5) (6,9]"}, {"[0,9]", "[5,6] [2,3]", "[0,2) (3,5) (6,9]"},
		{"[0,9] [0,9]", "[5,6] [2,3]", "[0,2) (3,5) (6,9] [0,2) (3,5) (6,9]"}, {"[8,9] [0,1]", "[3,4]", "[8,9] [0,1]"}, {"[0,9]", "[0,4] (4,9]", ""}, {"[0,9]", "[0,4) (4,9]", "[4,4]"},
	} {
		l, e := Minus(spans(c.a), spans(c.b))
		checkList(t, l, e, spans(c.want), api.OK, "Minus", c.a, c.b)
	}
}

// P5.2: the zones that are cut off follow the reduced constraints, each one within those before.
func TestMinusFollowsTheReducedConstraints(t *testing.T) {
	b := box(t, 1, 2, 3, 4)
	l, e := Minus([]api.Zone{box(t, 0, 5, 0, 5)}, []api.Zone{b})
	checkList(t, l, e, []api.Zone{
		made(t, 2, says(1, 0, strict(1)), says(2, 0, weak(5))),
		made(t, 2, says(0, 1, weak(-1)), says(1, 0, weak(5)), says(2, 0, strict(3))),
		made(t, 2, says(0, 1, strict(-2)), says(1, 0, weak(5)), says(0, 2, weak(-3)), says(2, 0, weak(5))),
		made(t, 2, says(0, 1, weak(-1)), says(1, 0, weak(2)), says(0, 2, strict(-4)), says(2, 0, weak(5))),
	}, api.OK, "Minus of a box")
	// Both clocks are equal: what the ring of its class says, in ascending order.
	line := made(t, 2, says(1, 2, weak(0)), says(2, 1, weak(0)))
	l, e = Minus([]api.Zone{all(2)}, []api.Zone{line})
	checkList(t, l, e, []api.Zone{made(t, 2, says(2, 1, strict(0))), made(t, 2, says(1, 2, strict(0)))}, api.OK, "Minus of a line")
	origin, _ := zone.Zero(2)
	l, e = Minus([]api.Zone{all(2)}, []api.Zone{origin})
	checkList(t, l, e, []api.Zone{made(t, 2, says(2, 1, strict(0))), made(t, 2, says(1, 2, weak(0)), says(0, 2, strict(0)))}, api.OK, "Minus of the origin")
}

// cube returns the zone of MaxDim clocks that all meet one lower and one upper limit.
func cube(t *testing.T, lower, upper api.Limit) api.Zone {
	t.Helper()
	var l []api.Constraint
	for i := 1; i <= api.MaxDim; i++ {
		l = append(l, says(0, i, lower), says(i, 0, upper))
	}
	return made(t, api.MaxDim, l...)
}

// P5.2: of MaxDim clocks: for each one what is below 1, in order, then for each one what is above 2.
func TestMinusOfMaxDim(t *testing.T) {
	outer := cube(t, weak(0), weak(3))
	var borders []api.Constraint
	for i := 1; i <= api.MaxDim; i++ {
		borders = append(borders, says(0, i, weak(-1)))
	}
	for i := 1; i <= api.MaxDim; i++ {
		borders = append(borders, says(i, 0, weak(2)))
	}
	var want []api.Zone
	for k, c := range borders {
		z, _ := zone.And(outer, append(slices.Clone(borders[:k]), says(c.J, c.I, 1-c.L)))
		want = append(want, z)
	}
	l, e := Minus([]api.Zone{outer}, []api.Zone{cube(t, weak(-1), weak(2))})
	checkList(t, l, e, want, api.OK, "Minus of a cube")
}

// P5.2: lists of MaxZones zones, in the end and on the way, and longer ones.
func TestMinusOfManyZones(t *testing.T) {
	half := api.MaxZones / 2
	nine, far := spans("[0,9]"), spans("[20,21]")
	parts := spans("[0,2) (3,9]")
	for _, c := range []struct {
		what       string
		a, b, want []api.Zone
		e          api.Errno
	}{
		{"MaxZones", times(half, nine...), spans("[2,3]"), times(half, parts...), api.OK},
		{"two more", times(half+1, nine...), spans("[2,3]"), nil, api.ErrLong},
		{"one more", slices.Concat(times(half, nine...), far), spans("[2,3]"), nil, api.ErrLong},
		{"one more at first", slices.Concat(far, times(half, nine...)), spans("[2,3]"), nil, api.ErrLong},
		{"MaxZones without a cut", times(api.MaxZones, far...), spans("[2,3]"), times(api.MaxZones, far...), api.OK},
		{"MaxZones less nothing", times(api.MaxZones, nine...), nil, times(api.MaxZones, nine...), api.OK},
		{"MaxZones, cut at one end", times(api.MaxZones, nine...), spans("[0,3]"), times(api.MaxZones, spans("(3,9]")...), api.OK},
		{"less in the end", times(half+1, nine...), spans("[2,3] [0,9]"), nil, api.ErrLong},
		{"MaxZones on the way", times(half, nine...), spans("[2,3] [0,9]"), nil, api.OK},
		{"less before", times(half+1, nine...), spans("[0,9] [2,3]"), nil, api.OK},
		{"much of nothing", nine, times(api.MaxZones, far...), nine, api.OK},
		{"nothing left", nine, times(api.MaxZones, nine...), nil, api.OK},
		// The list that is made next counts, not what is left of the one before.
		{"one for another", slices.Concat(nine, spans("[2,3]"), times(api.MaxZones-2, far...)), spans("[2,3]"), slices.Concat(parts, times(api.MaxZones-2, far...)), api.OK},
	} {
		l, e := Minus(c.a, c.b)
		if e != c.e || !sameLists(l, c.want) {
			t.Errorf("Minus, %s: %d zones, %d; want %d, %d", c.what, len(l), e, len(c.want), c.e)
		}
	}
}

// tower returns the zone in which the clock 2 is at most c above the clock 1.
func tower(t *testing.T, c int64) api.Zone { return made(t, 2, says(2, 1, weak(c))) }

// P5.2: zones on the way that are out of range: the intersection, the rest, and what is cut off.
func TestMinusOutOfRange(t *testing.T) {
	corner := made(t, 2, says(1, 0, weak(5)), says(2, 0, weak(7)))
	for _, c := range []struct {
		what string
		a, b api.Zone
		e    api.Errno
	}{
		{"the intersection", tower(t, most), made(t, 2, says(1, 0, weak(5))), api.ErrRange},
		{"the intersection in range", tower(t, most-5), made(t, 2, says(1, 0, weak(5))), api.OK},
		{"the rest", tower(t, most), corner, api.ErrRange}, {"the rest in range", tower(t, most-5), corner, api.OK},
		{"what is cut off", made(t, 2, says(1, 2, weak(least))), made(t, 2, says(1, 0, weak(5)), says(0, 2, weak(least))), api.ErrRange},
		{"what is cut off at 0", made(t, 2, says(1, 2, weak(least))), made(t, 2, says(1, 0, weak(0)), says(0, 2, weak(least))), api.OK},
		{"what does not meet it", tower(t, most), made(t, 2, says(1, 0, weak(5)), says(1, 2, strict(least))), api.OK},
	} {
		l, e := Minus([]api.Zone{c.a}, []api.Zone{c.b})
		want, wantE := minusByWords([]api.Zone{c.a}, []api.Zone{c.b})
		checkList(t, l, e, want, wantE, "Minus, "+c.what)
		if e != c.e {
			t.Errorf("Minus, %s: %d", c.what, e)
		}
	}
	high := spans("[1073741824,any)")[0]
	l, e := Minus([]api.Zone{all(1)}, []api.Zone{high})
	checkList(t, l, e, spans("[0,1073741824)"), api.OK, "Minus at the end of the range")
	l, e = Minus([]api.Zone{all(1)}, l)
	checkList(t, l, e, []api.Zone{high}, api.OK, "Minus up to the end of the range")
}

// P5.2: the error that is met first is told, of a list that is too long and a zone out of range.
func TestFirstErrorOfMinus(t *testing.T) {
	// Of each plain zone two parts are cut off; of the other one two parts are, and then the rest is out of range.
	b := made(t, 2, says(0, 1, weak(-2)), says(1, 0, weak(5)), says(2, 0, weak(7)))
	plain, other := made(t, 2, says(1, 0, weak(9)), says(2, 0, weak(3))), tower(t, most-2)
	half, corner := api.MaxZones/2, made(t, 2, says(1, 0, weak(5)), says(2, 0, weak(7)))
	for _, c := range []struct {
		what string
		a, b []api.Zone
		e    api.Errno
	}{
		{"MaxZones before", append(times(half-1, plain), other), []api.Zone{b}, api.ErrRange},
		{"one more before", append(times(half, plain), other), []api.Zone{b}, api.ErrLong},
		{"more behind", append([]api.Zone{other}, times(half, plain)...), []api.Zone{b}, api.ErrRange},
		{"out of range later", append(times(half+1, plain), other), []api.Zone{b, all(2)}, api.ErrLong},
		{"out of range in the next round", append(times(half-1, plain), other), []api.Zone{made(t, 2, says(0, 1, strict(-9)), says(2, 1, strict(-9))), b}, api.ErrRange},
		{"all gone before", append(times(half+1, plain), other), []api.Zone{all(2), b}, api.OK},
		{"the intersection, before a list is too long", append(times(half, plain), other), []api.Zone{made(t, 2, says(0, 1, weak(-2)), says(1, 0, weak(5)))}, api.ErrRange},
		{"one more, just before the rest", append(times(api.MaxZones-2, plain), made(t, 2, says(1, 0, weak(9)), says(2, 0, weak(9))), other), []api.Zone{corner}, api.ErrLong},
		{"MaxZones, just before the rest", append(times(api.MaxZones-1, plain), other), []api.Zone{corner}, api.ErrRange},
	} {
		if l, e := Minus(c.a, c.b); e != c.e || len(l) != 0 {
			t.Errorf("Minus, %s: %d zones, %d; want %d", c.what, len(l), e, c.e)
		}
		want, wantE := minusByWords(c.a, c.b)
		if wantE != c.e || len(want) != 0 {
			t.Errorf("Minus in words, %s: %d zones, %d; want %d", c.what, len(want), wantE, c.e)
		}
	}
}

// P5.3
func TestMeet(t *testing.T) {
	for _, c := range []struct{ a, b, want string }{
		{"[0,5]", "[2,3] [4,9]", "[2,3] [4,5]"}, {"[2,3] [4,9]", "[0,5]", "[2,3] [4,5]"}, {"[0,5]", "[6,7]", ""}, {"[0,5]", "", ""}, {"", "[0,5]", ""},
		{"[0,5]", "[5,7]", "[5,5]"}, {"[0,5)", "[5,7]", ""}, {"[0,5]", "(5,7]", ""}, {"[0,any)", "(2,any)", "(2,any)"}, {"[1,5]", "[1,5] (1,5)", "[1,5] (1,5)"},
		// Each zone of the first list with each one of the second.
		{"[0,9] [4,9] [0,4]", "[6,8] [0,1] [3,5]", "[6,8] [0,1] [3,5] [6,8] [4,5] [0,1] [3,4]"}, {"[1,2] [1,2]", "[1,2] [1,2]", "[1,2] [1,2] [1,2] [1,2]"},
	} {
		l, e := Meet(spans(c.a), spans(c.b))
		checkList(t, l, e, spans(c.want), api.OK, "Meet", c.a, c.b)
	}
	l, e := Meet([]api.Zone{box(t, 0, 3, 0, 3), box(t, 5, 9, 5, 9)}, []api.Zone{box(t, 2, 6, 1, 8), all(2)})
	checkList(t, l, e, []api.Zone{box(t, 2, 3, 1, 3), box(t, 0, 3, 0, 3), box(t, 5, 6, 5, 8), box(t, 5, 9, 5, 9)}, api.OK, "Meet of boxes")
}

// P5.3: only intersections that are not empty count.
func TestMeetOfManyZones(t *testing.T) {
	nine, far := spans("[0,9]"), spans("[20,21]")
	for _, c := range []struct {
		what string
		a, b []api.Zone
		size int
		e    api.Errno
	}{
		{"MaxZones with one", times(api.MaxZones, nine...), spans("[2,3]"), api.MaxZones, api.OK}, {"one with MaxZones", nine, times(api.MaxZones, nine...), api.MaxZones, api.OK},
		{"40 with 50", times(40, nine...), times(50, nine...), api.MaxZones, api.OK}, {"3 with 667", times(3, nine...), times(667, nine...), 0, api.ErrLong}, {"667 with 3", times(667, nine...), times(3, nine...), 0, api.ErrLong},
		{"MaxZones with some that are far away", times(api.MaxZones, nine...), slices.Concat(far, nine, far), api.MaxZones, api.OK},
		{"MaxZones with two", times(api.MaxZones, nine...), spans("[2,3] [9,10]"), 0, api.ErrLong}, {"MaxZones and one more", append(times(api.MaxZones-1, nine...), spans("[0,50]")...), slices.Concat(nine, far), 0, api.ErrLong},
	} {
		l, e := Meet(c.a, c.b)
		if e != c.e || len(l) != c.size {
			t.Errorf("Meet, %s: %d zones, %d; want %d, %d", c.what, len(l), e, c.size, c.e)
		}
	}
}

// P5.3: the first error of those that are met.
func TestFirstErrorOfMeet(t *testing.T) {
	low := made(t, 2, says(1, 0, weak(5)))
	for _, c := range []struct {
		what string
		a, b []api.Zone
		e    api.Errno
	}{
		{"out of range", []api.Zone{tower(t, most-4)}, []api.Zone{low}, api.ErrRange}, {"in range", []api.Zone{tower(t, most-5)}, []api.Zone{low}, api.OK},
		{"out of range at last", append(times(api.MaxZones, all(2)), tower(t, most))[1:], []api.Zone{low}, api.ErrRange},
		{"out of range before it is too long", []api.Zone{tower(t, most), all(2), all(2)}, append([]api.Zone{low}, times(api.MaxZones-1, all(2))...), api.ErrRange},
		{"too long before it is out of range", []api.Zone{all(2), all(2), tower(t, most)}, append([]api.Zone{low}, times(api.MaxZones-1, all(2))...), api.ErrLong},
		{"MaxZones, and out of range", []api.Zone{all(2), tower(t, most)}, append([]api.Zone{low}, times(api.MaxZones-1, all(2))...), api.ErrRange},
		{"empty, with what would be out of range", []api.Zone{tower(t, most)}, []api.Zone{made(t, 2, says(1, 0, weak(5)), says(1, 2, strict(least)))}, api.OK},
	} {
		if l, e := Meet(c.a, c.b); e != c.e || e != api.OK && len(l) != 0 {
			t.Errorf("Meet, %s: %d zones, %d; want %d", c.what, len(l), e, c.e)
		}
	}
}

// P5.4
func TestIncludes(t *testing.T) {
	for _, c := range []struct {
		a, b string
		want bool
	}{
		{"[0,3] (2,9]", "[1,5]", true}, {"[0,3] [4,9]", "[1,5]", false}, {"[0,3] (3,9]", "[1,5]", true}, {"[0,3) (3,9]", "[1,5]", false}, {"[0,3) (3,9] [3,3]", "[1,5]", true},
		{"", "", true}, {"[0,3]", "", true}, {"", "[0,3]", false}, {"[0,3]", "[0,3]", true}, {"[0,3]", "[0,3)", true}, {"[0,3)", "[0,3]", false}, {"[0,3]", "[0,3] [1,2] [3,4]", false},
		{"[0,3] [5,7]", "[6,6] [0,1] [2,2]", true}, {"[0,3] [5,7]", "[0,3] [5,7]", true}, {"[0,any)", "(7,any)", true}, {"[0,9]", "(7,any)", false}, {"(8,any) [5,8]", "(7,any)", true},
	} {
		in, e := Includes(spans(c.a), spans(c.b))
		checkBool(t, in, e, c.want, api.OK, "Includes", c.a, c.b)
	}
	in, e := Includes([]api.Zone{box(t, 0, 2, 0, 4), box(t, 2, 4, 0, 4)}, []api.Zone{box(t, 1, 3, 1, 3)})
	checkBool(t, in, e, true, api.OK, "Includes of two boxes")
	in, e = Includes([]api.Zone{box(t, 0, 2, 0, 4), box(t, 2, 4, 0, 2)}, []api.Zone{box(t, 1, 3, 1, 3)})
	checkBool(t, in, e, false, api.OK, "Includes of two boxes with a corner left")
}

// P5.4: the errors of Minus are met also where something is left already.
func TestErrorsOfIncludes(t *testing.T) {
	nine := spans("[0,9]")
	for _, c := range []struct {
		what string
		a, b []api.Zone
		want bool
		e    api.Errno
	}{
		{"too long on the way", spans("[2,3] [0,9]"), times(api.MaxZones/2+1, nine...), false, api.ErrLong}, {"MaxZones on the way", spans("[2,3] [0,9]"), times(api.MaxZones/2, nine...), true, api.OK},
		{"MaxZones", nine, times(api.MaxZones, nine...), true, api.OK}, {"in MaxZones", times(api.MaxZones, nine...), nine, true, api.OK},
		{"out of range", []api.Zone{made(t, 2, says(1, 0, weak(5)))}, []api.Zone{tower(t, most)}, false, api.ErrRange},
		{"out of range behind", []api.Zone{made(t, 2, says(1, 0, weak(5)))}, []api.Zone{all(2), tower(t, most)}, false, api.ErrRange},
		{"out of range behind one that all are in", []api.Zone{all(2), made(t, 2, says(1, 0, weak(5)))}, []api.Zone{all(2), tower(t, most)}, true, api.OK},
	} {
		in, e := Includes(c.a, c.b)
		checkBool(t, in, e, c.want, c.e, "Includes, "+c.what)
	}
}

// P5.2 to P5.4: also in the words of the document.
func TestSetsInWords(t *testing.T) {
	told, included := map[api.Errno]int{}, map[bool]int{}
	eachPair(1, dimensions(), sizes(), 25, func(g *rand.Rand, a, b []api.Zone) {
		l, e := Minus(a, b)
		want, wantE := minusByWords(a, b)
		told[e]++
		checkList(t, l, e, want, wantE, "Minus", a, b)
		l, e = Meet(a, b)
		want, wantE = meetByWords(a, b)
		told[e]++
		checkList(t, l, e, want, wantE, "Meet", a, b)
		in, e := Includes(a, b)
		wantIn, wantE := includesByWords(a, b)
		told[e]++
		included[in]++
		checkBool(t, in, e, wantIn, wantE, "Includes", a, b)
	})
	if told[api.OK] < 1000 || told[api.ErrRange] < 20 || included[true] < 200 || included[false] < 200 {
		t.Errorf("told: %v, included: %v", told, included)
	}
}

package federation

import (
	"math/rand/v2"
	"slices"
	"testing"

	"foliot/api"
	"foliot/zone"
)

// P5.5
func TestSimplify(t *testing.T) {
	for _, c := range []struct{ l, want string }{
		{"", ""}, {"[2,3]", "[2,3]"}, {"[0,3] [1,2] (3,5]", "[0,5]"}, {"[0,3] [4,5]", "[0,3] [4,5]"},
		// Of those that are contained in others, the first one goes first.
		{"[1,2] [0,3]", "[0,3]"}, {"[0,3] [1,2]", "[0,3]"}, {"[0,3] [0,3]", "[0,3]"}, {"[4,5] [0,3] [4,5]", "[0,3] [4,5]"}, {"[4,5] [4,5] [0,2] [4,5]", "[0,2] [4,5]"}, {"[4,5] [0,2] [4,5) [7,8]", "[4,5] [0,2] [7,8]"},
		{"[1,2] [0,3] [1,2] [0,9] [20,21]", "[0,9] [20,21]"}, {"[0,9] [20,21] [1,2] [0,3] [0,9]", "[20,21] [0,9]"},
		// Hulls that are the union, and those that are greater: they touch, overlap, or leave a gap.
		{"[0,3] (3,5]", "[0,5]"}, {"(3,5] [0,3]", "[0,5]"}, {"[0,3) [3,5]", "[0,5]"}, {"[0,3) (3,5]", "[0,3) (3,5]"}, {"[0,3] [3,5)", "[0,5)"}, {"[0,4) (2,5)", "[0,5)"}, {"[1,4) (2,any)", "[1,any)"}, {"(3,any) [0,2]", "(3,any) [0,2]"},
		{"[0,3) (3,5] [3,3]", "[0,5]"}, {"[3,3] [0,3) (3,any)", "[0,any)"},
		// The hull stands where the first one of the pair was.
		{"[20,21] (3,5] [30,31] [0,3] [40,41]", "[20,21] [0,5] [30,31] [40,41]"},
		// A hull is tried with the zones before it as well, and it may contain some.
		{"[0,1] [4,5] (1,2] [2,4)", "[0,5]"}, {"[6,7] [0,1] (4,6) (1,4]", "[0,7]"}, {"[0,3] [2,4] (3,5]", "[0,5]"}, {"[9,9] [2,4] [0,3] (3,5]", "[9,9] [0,5]"},
	} {
		l, e := Simplify(spans(c.l))
		checkList(t, l, e, spans(c.want), api.OK, "Simplify", c.l)
	}
}

// P5.5: which pair is the first one matters if a zone could be joined with each of two others.
func TestSimplifyTakesTheFirstPair(t *testing.T) {
	corner, right, above := box(t, 0, 1, 0, 1), box(t, 1, 2, 0, 1), box(t, 0, 1, 1, 2)
	wide, high, opposite := box(t, 0, 2, 0, 1), box(t, 0, 1, 0, 2), box(t, 1, 2, 1, 2)
	for _, c := range []struct{ l, want []api.Zone }{
		{[]api.Zone{corner, right, above}, []api.Zone{wide, above}}, {[]api.Zone{corner, above, right}, []api.Zone{high, right}},
		{[]api.Zone{right, corner, above}, []api.Zone{wide, above}}, {[]api.Zone{above, corner, right}, []api.Zone{high, right}},
		{[]api.Zone{right, above, corner}, []api.Zone{wide, above}}, {[]api.Zone{above, right, corner}, []api.Zone{high, right}},
		{[]api.Zone{right, above}, []api.Zone{right, above}}, {[]api.Zone{corner, opposite}, []api.Zone{corner, opposite}}, {[]api.Zone{wide, high}, []api.Zone{wide, high}},
		{[]api.Zone{corner, opposite, right, above}, []api.Zone{box(t, 0, 2, 0, 2)}},
		// What is contained in another one is left out before anything is joined with it.
		{[]api.Zone{corner, box(t, 1, 2, 0, 3), right}, []api.Zone{corner, box(t, 1, 2, 0, 3)}}, {[]api.Zone{corner, right, box(t, 1, 2, 0, 3)}, []api.Zone{corner, box(t, 1, 2, 0, 3)}},
		// All three together are a square, but no two of them.
		{[]api.Zone{wide, high, opposite}, []api.Zone{wide, high, opposite}},
	} {
		l, e := Simplify(c.l)
		checkList(t, l, e, c.want, api.OK, "Simplify", c.l)
	}
}

// P5.5: a hull with zones behind it can be joined with one before it, and that one then with others.
func TestSimplifyGoesBack(t *testing.T) {
	top, side, left, right := box(t, 0, 2, 2, 4), box(t, 2, 4, 0, 4), box(t, 0, 1, 0, 2), box(t, 1, 2, 0, 2)
	apart, behind := box(t, 7, 8, 7, 8), box(t, 0, 4, 4, 5)
	for _, c := range []struct{ l, want []api.Zone }{
		{[]api.Zone{top, side, left, right}, []api.Zone{box(t, 0, 4, 0, 4)}}, {[]api.Zone{side, top, left, right}, []api.Zone{box(t, 0, 4, 0, 4)}},
		{[]api.Zone{apart, top, apart, left, right}, []api.Zone{box(t, 0, 2, 0, 4), apart}}, {[]api.Zone{behind, top, apart, side, left, right}, []api.Zone{box(t, 0, 4, 0, 5), apart}},
	} {
		l, e := Simplify(c.l)
		checkList(t, l, e, c.want, api.OK, "Simplify", c.l)
	}
}

// P5.5: two triangles make a square, with the diagonal in one of them, or in none.
func TestSimplifyOfTriangles(t *testing.T) {
	square := box(t, 0, 5, 0, 5)
	half := func(i, j int, l api.Limit) api.Zone {
		return made(t, 2, says(1, 0, weak(5)), says(2, 0, weak(5)), says(i, j, l))
	}
	upper, lower := half(1, 2, weak(0)), half(2, 1, strict(0))
	l, e := Simplify([]api.Zone{lower, upper})
	checkList(t, l, e, []api.Zone{square}, api.OK, "Simplify of two triangles")
	open := []api.Zone{lower, half(1, 2, strict(0))}
	l, e = Simplify(open)
	checkList(t, l, e, open, api.OK, "Simplify of two open triangles")
	diagonal := made(t, 2, says(1, 2, weak(0)), says(2, 1, weak(0)), says(1, 0, weak(5)))
	l, e = Simplify(append(open, diagonal))
	checkList(t, l, e, []api.Zone{square}, api.OK, "Simplify of two open triangles and the diagonal")
}

// steps returns intervals that touch each other, in order.
func steps(count int) []api.Zone {
	var l []api.Zone
	for k := range int64(count) {
		l = append(l, zoneOf(1, 1, weak(-k), strict(k+1), 1))
	}
	return l
}

// P5.5
func TestSimplifyOfManyZones(t *testing.T) {
	long := []api.Zone{zoneOf(1, 1, 1, strict(api.MaxZones), 1)}
	l, e := Simplify(steps(api.MaxZones))
	checkList(t, l, e, long, api.OK, "Simplify of MaxZones steps")
	l, e = Simplify(times(api.MaxZones, long...))
	checkList(t, l, e, long, api.OK, "Simplify of MaxZones equal zones")
	l, e = Simplify(steps(api.MaxZones + 1))
	checkList(t, l, e, nil, api.ErrLong, "Simplify of more steps")
	shuffled := steps(60)
	rand.New(rand.NewPCG(5, 5)).Shuffle(len(shuffled), func(i, j int) { shuffled[i], shuffled[j] = shuffled[j], shuffled[i] })
	l, e = Simplify(shuffled)
	checkList(t, l, e, []api.Zone{zoneOf(1, 1, 1, strict(60), 1)}, api.OK, "Simplify of shuffled steps")
}

// P5.5: what is left of a hull may be out of range; only the pairs that are looked at tell so.
func TestSimplifyOutOfRange(t *testing.T) {
	left, right := made(t, 2, says(1, 0, strict(5)), says(2, 0, strict(5))), made(t, 2, says(2, 1, weak(most)), says(0, 1, weak(-5)))
	wide, plain := all(2), made(t, 2, says(1, 0, weak(1)), says(0, 2, weak(-9)), says(2, 0, weak(9)))
	for _, c := range []struct {
		what    string
		l, want []api.Zone
	}{
		{"one", []api.Zone{right}, []api.Zone{right}},
		{"two", []api.Zone{left, right}, nil}, {"the other way round", []api.Zone{right, left}, nil},
		{"both contained in another one", []api.Zone{left, wide, right}, []api.Zone{wide}},
		{"another one between", []api.Zone{left, plain, right}, nil},
	} {
		l, e := Simplify(c.l)
		want, wantE := simplifyByWords(c.l)
		checkList(t, l, e, want, wantE, "Simplify, "+c.what)
		if (c.want == nil) != (e == api.ErrRange) || !sameLists(l, c.want) {
			t.Errorf("Simplify, %s: %v, %d", c.what, l, e)
		}
	}
}

// P5.5: what is left of a hull is out of range if the second one of a pair is cut out first; the second one here is a hull itself.
func TestSimplifyCutsInOrder(t *testing.T) {
	l := []api.Zone{
		made(t, 2, says(0, 1, weak(-2)), says(0, 2, weak(1-most)), says(2, 1, weak(most-3))),
		made(t, 2, says(0, 1, strict(-6)), says(0, 2, strict(-7)), says(1, 2, weak(-1)), says(2, 0, weak(most-1)), says(2, 1, strict(most-7))),
		made(t, 2, says(0, 1, strict(-6)), says(2, 0, weak(most-1)), says(2, 1, strict(1))),
	}
	got, e := Simplify(l)
	want, wantE := simplifyByWords(l)
	checkList(t, got, e, want, wantE, "Simplify", l)
	if e != api.OK || len(got) != 2 {
		t.Errorf("Simplify of three zones: %v, %d", got, e)
	}
	hull, _ := zone.Hull(want[0], want[1])
	in, e := Includes(want, []api.Zone{hull})
	checkBool(t, in, e, false, api.OK, "Includes of both in this order")
	in, e = Includes([]api.Zone{want[1], want[0]}, []api.Zone{hull})
	checkBool(t, in, e, false, api.ErrRange, "Includes of both the other way round")
}

// shifted returns the zone of MaxDim clocks that are up to 100 from 1000, and as
// much from each other, with the clock i later by i times step.
func shifted(t *testing.T, step int64) api.Zone {
	t.Helper()
	var l []api.Constraint
	for i := range api.MaxDim + 1 {
		for j := range i {
			middle := step * int64(i-j)
			if j == 0 {
				middle += 1000
			}
			l = append(l, says(i, j, weak(100+middle)), says(j, i, weak(100-middle)))
		}
	}
	return made(t, api.MaxDim, l...)
}

// P5.5: what is left of a hull without two zones may be more than MaxZones zones.
func TestSimplifyTooLongOnTheWay(t *testing.T) {
	zones := []api.Zone{shifted(t, 0), shifted(t, 1)}
	l, e := Simplify(zones)
	checkList(t, l, e, nil, api.ErrLong, "Simplify of two zones, a little apart")
	zones[1] = shifted(t, 20)
	l, e = Simplify(zones)
	checkList(t, l, e, zones, api.OK, "Simplify of two zones, further apart")
	outOfRange := append(times(1, zones...), made(t, api.MaxDim, says(0, 1, weak(-2000)), says(2, 1, weak(most))))
	l, e = Simplify(outOfRange)
	checkList(t, l, e, nil, api.ErrRange, "Simplify of these, and one that leads out of range")
	outOfRange[1] = shifted(t, 1)
	l, e = Simplify(outOfRange)
	checkList(t, l, e, nil, api.ErrLong, "Simplify of those, and one that leads out of range")
}

// P5.5: also in the words of the document.
func TestSimplifyInWords(t *testing.T) {
	told, joined := map[api.Errno]int{}, 0
	eachPair(2, dimensions(), sizes(), 20, func(g *rand.Rand, a, b []api.Zone) {
		l := slices.Concat(a, b)
		got, e := Simplify(l)
		want, wantE := simplifyByWords(l)
		told[e]++
		if e == api.OK && len(got) < len(l) {
			joined++
		}
		checkList(t, got, e, want, wantE, "Simplify", l)
	})
	if told[api.OK] < 500 || told[api.ErrRange] < 10 || joined < 200 {
		t.Errorf("told: %v, with less zones: %d", told, joined)
	}
}

// split returns zones that make z together, of which no two meet.
func split(g *rand.Rand, z api.Zone, depth int) []api.Zone {
	for range 20 * depth {
		i, j := g.IntN(z.N+1), g.IntN(z.N+1)
		c := weak(g.Int64N(16)-8) - api.Limit(g.IntN(2))
		one, e := zone.And(z, []api.Constraint{says(i, j, c)})
		other, e2 := zone.And(z, []api.Constraint{says(j, i, 1-c)})
		if e == api.OK && e2 == api.OK {
			return append(split(g, one, depth-1), split(g, other, depth-1)...)
		}
	}
	return []api.Zone{z}
}

// P5.5: parts of a zone, in any order, of which most can be joined again in several ways; now and then one is not there.
func TestSimplifyOfPartsInWords(t *testing.T) {
	g, whole, less := rand.New(rand.NewPCG(5, 6)), 0, 0
	for count := range 300 {
		l := split(g, all(1+count%3), 3)
		g.Shuffle(len(l), func(i, j int) { l[i], l[j] = l[j], l[i] })
		l = l[count%2:]
		got, e := Simplify(l)
		want, wantE := simplifyByWords(l)
		checkList(t, got, e, want, wantE, "Simplify", l)
		if len(l) > 1 && len(got) == 1 {
			whole++
		} else if len(got) < len(l) {
			less++
		}
	}
	if whole < 100 || less < 100 {
		t.Errorf("%d lists have become one zone, %d others are shorter", whole, less)
	}
}

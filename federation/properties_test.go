package federation

import (
	"math/rand/v2"
	"slices"
	"testing"

	"foliot/api"
	"foliot/zone"
)

// The points of the grid have values in quarters, written in eighths. They tell
// all sets of up to three clocks apart that have integer constants. Time goes on
// in eighths, as what is true between two quarters is true in the middle of them.
const (
	unit = 8
	step = 2
	far  = 9 * unit // beyond the constants of the zones, and what is above these by a difference
)

// holds tells whether a point of the grid is in a zone.
func holds(z api.Zone, p []int64) bool {
	values := append([]int64{0}, p...)
	for i, x := range values {
		for j, y := range values {
			l := z.M[i*(z.N+1)+j]
			c, weakToo := int64(l>>1)*unit, l&1 == 1
			if l != none && (x-y > c || x-y == c && !weakToo) {
				return false
			}
		}
	}
	return true
}

// inSome tells whether a point of the grid is in one of the zones.
func inSome(l []api.Zone, p []int64) bool {
	return slices.ContainsFunc(l, func(z api.Zone) bool { return holds(z, p) })
}

// later returns the point d eighths later.
func later(p []int64, d int64) []int64 {
	q := slices.Clone(p)
	for i := range q {
		q[i] += d
	}
	return q
}

// eachPoint calls f for all points of the grid, as far as the constants of small lists reach.
func eachPoint(n int, f func(p []int64)) {
	p, top := make([]int64, n), int64(far)
	if n == 3 {
		top = 5 * unit
	}
	var from func(i int)
	from = func(i int) {
		if i == n {
			f(p)
			return
		}
		for p[i] = 0; p[i] <= top; p[i] += step {
			from(i + 1)
		}
	}
	from(0)
}

// reaches tells whether good is reached from a point, and bad is touched neither before nor then.
func reaches(good, bad []api.Zone, p []int64) bool {
	for d := int64(0); d <= far && !inSome(bad, later(p, d)); d++ {
		if inSome(good, later(p, d)) {
			return true
		}
	}
	return false
}

// passes tells whether one of the zones is touched from a point on, in this direction of time.
func passes(l []api.Zone, p []int64, direction int64) bool {
	for d := int64(0); d <= far; d++ {
		q := later(p, d*direction)
		if len(q) > 0 && slices.Min(q) < 0 {
			return false
		}
		if inSome(l, q) {
			return true
		}
	}
	return false
}

// result returns a list without an error.
func result(t *testing.T, f func(a, b []api.Zone) ([]api.Zone, api.Errno), a, b []api.Zone) []api.Zone {
	t.Helper()
	l, e := f(a, b)
	if e != api.OK {
		t.Fatalf("of %v and %v: %d", a, b, e)
	}
	return l
}

// of returns a function of one list as one of two.
func of(f func(l []api.Zone) ([]api.Zone, api.Errno)) func(a, b []api.Zone) ([]api.Zone, api.Errno) {
	return func(a, b []api.Zone) ([]api.Zone, api.Errno) { return f(a) }
}

// small calls f with lists of zones with small constants, of up to three clocks, and their number.
func small(seed uint64, count int, f func(n int, a, b []api.Zone)) {
	numbered := func(g *rand.Rand, a, b []api.Zone) {
		n := 0
		if l := slices.Concat(a, b); len(l) > 0 {
			n = l[0].N
		}
		f(n, a, b)
	}
	eachPair(seed, []int{0, 1, 2}, []int64{1, 2}, 10*count, numbered)
	eachPair(seed, []int{3}, []int64{1}, count, numbered)
}

// P5.8
func TestSetsPointByPoint(t *testing.T) {
	points := map[string]int{}
	small(5, 30, func(n int, a, b []api.Zone) {
		minus, meet, simple := result(t, Minus, a, b), result(t, Meet, a, b), result(t, of(Simplify), a, b)
		included, _ := Includes(a, b)
		all := true
		eachPoint(n, func(p []int64) {
			inA, inB := inSome(a, p), inSome(b, p)
			all = all && (inA || !inB)
			for _, c := range []struct {
				what      string
				got, want bool
			}{{"Minus", inSome(minus, p), inA && !inB}, {"Meet", inSome(meet, p), inA && inB}, {"Simplify", inSome(simple, p), inA}} {
				if c.got != c.want {
					t.Errorf("%s of %v and %v: %v is in it: %v", c.what, a, b, p, c.got)
				}
				if c.got {
					points[c.what]++
				}
			}
		})
		if included != all {
			t.Errorf("Includes of %v and %v: %v", a, b, included)
		}
	})
	if points["Minus"] < 1000 || points["Meet"] < 1000 || points["Simplify"] < 1000 {
		t.Errorf("points: %v", points)
	}
}

// P5.8
func TestTimePointByPoint(t *testing.T) {
	small(6, 3, func(n int, a, b []api.Zone) {
		up, down := result(t, of(Up), a, b), result(t, of(Down), a, b)
		eachPoint(n, func(p []int64) {
			if got := inSome(down, p); got != passes(a, p, 1) {
				t.Errorf("Down of %v: %v is in it: %v", a, p, got)
			}
			if got := inSome(up, p); got != passes(a, p, -1) {
				t.Errorf("Up of %v: %v is in it: %v", a, p, got)
			}
		})
	})
}

// P5.7 and P5.9
func TestWithinPointByPoint(t *testing.T) {
	reached, avoided := 0, 0
	small(7, 6, func(n int, good, bad []api.Zone) {
		l, down := result(t, Within, good, bad), result(t, of(Down), good, bad)
		eachPoint(n, func(p []int64) {
			got := inSome(l, p)
			if got != reaches(good, bad, p) {
				t.Errorf("Within of %v and %v: %v is in it: %v", good, bad, p, got)
			}
			if got {
				reached++
			} else if inSome(down, p) {
				avoided++
			}
		})
	})
	if reached < 1000 || avoided < 1000 {
		t.Errorf("%d points are in it, and %d others before what is good", reached, avoided)
	}
}

// P5.8, of all dimensions: a point of what is left is in a and not in b.
func TestPointsOfSets(t *testing.T) {
	left := 0
	has := func(l []api.Zone, p []api.Ratio) bool {
		in, e := Has(l, p)
		return in && e == api.OK
	}
	eachPair(8, dimensions(), []int64{1, 3, 30, api.MaxConst}, 4, func(g *rand.Rand, a, b []api.Zone) {
		minus, meet, simple := result(t, Minus, a, b), result(t, Meet, a, b), result(t, of(Simplify), a, b)
		for _, z := range slices.Concat(a, b, minus, meet, simple) {
			p, e := zone.Point(z)
			if e != api.OK {
				continue
			}
			inA, inB := has(a, p), has(b, p)
			if has(minus, p) != (inA && !inB) || has(meet, p) != (inA && inB) || has(simple, p) != inA {
				t.Errorf("%v: it is in %v: %v, in %v: %v", p, a, inA, b, inB)
			}
			if inA && !inB {
				left++
			}
		}
	})
	if left < 500 {
		t.Errorf("only %d points are left", left)
	}
}

// P5.8, of more clocks: what is put together again is all there was.
func TestPartsMakeTheWhole(t *testing.T) {
	eachPair(9, []int{0, 1, 2, 3, 4, 5}, []int64{1, 3, 30}, 30, func(g *rand.Rand, a, b []api.Zone) {
		minus, meet, simple := result(t, Minus, a, b), result(t, Meet, a, b), result(t, of(Simplify), a, b)
		for _, c := range [][2][]api.Zone{{slices.Concat(minus, meet), a}, {a, slices.Concat(minus, meet)}, {slices.Concat(minus, b), a}, {slices.Concat(a, b), minus}, {a, simple}, {simple, a}} {
			if in, e := Includes(c[0], c[1]); e != api.OK && e != api.ErrLong || !in && e == api.OK {
				t.Errorf("Includes of %v and %v: %v, %d, for %v and %v", c[0], c[1], in, e, a, b)
			}
		}
		if l, e := Meet(minus, b); e != api.OK || len(l) != 0 {
			t.Errorf("Minus of %v and %v meets the second: %v, %d", a, b, l, e)
		}
	})
}

// P5.8: no zone of Simplify is contained in another one, and it has nothing left to do.
func TestSimplifyLeavesNoParts(t *testing.T) {
	eachPair(10, dimensions(), []int64{1, 3, 30}, 15, func(g *rand.Rand, a, b []api.Zone) {
		l := result(t, of(Simplify), append(a, b...), nil)
		if i := partByWords(l); i >= 0 {
			t.Errorf("Simplify of %v and %v: %v is contained in another one", a, b, l[i])
		}
		again, e := Simplify(l)
		checkList(t, again, e, l, api.OK, "Simplify again")
	})
}

// P5.9
func TestWithinAndDown(t *testing.T) {
	eachPair(11, dimensions(), sizes(), 20, func(g *rand.Rand, good, bad []api.Zone) {
		l, e := Within(good, nil)
		checkList(t, l, e, result(t, of(Down), good, nil), api.OK, "Within of nothing bad", good)
		l, e = Within(good, bad)
		if e != api.OK {
			return
		}
		for _, b := range bad {
			if met, e := Meet(l, []api.Zone{b}); len(met) > 0 || e != api.OK {
				t.Errorf("Within of %v and %v is touched: %v, %d", good, bad, met, e)
			}
		}
	})
}

// P5.10
func TestPartsDoNotMeet(t *testing.T) {
	pairs := 0
	eachPair(12, dimensions(), []int64{1, 3, 30, api.MaxConst}, 20, func(g *rand.Rand, a, b []api.Zone) {
		parts := result(t, Minus, a[:min(1, len(a))], b)
		if len(parts) > 40 {
			parts = parts[:40]
		}
		more := result(t, Minus, parts, b[:min(1, len(b))])
		for _, l := range [][]api.Zone{parts, more} {
			for i, x := range l {
				for _, y := range l[i+1:] {
					pairs++
					if z, e := zone.Meet(x, y); e != api.ErrNone {
						t.Errorf("Minus of %v and %v: %v and %v meet: %v, %d", a, b, x, y, z, e)
					}
				}
			}
		}
	})
	if pairs < 1000 {
		t.Errorf("only %d pairs", pairs)
	}
}

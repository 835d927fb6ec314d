package poly

import (
	"math/big"
	"math/rand/v2"
	"slices"
	"testing"

	"foliot/api"
)

// somePoints returns points of all kinds: random ones, and those of the lists
// and of their borders, where sets begin and end.
func somePoints(g *rand.Rand, n int, lists ...[]api.Line) [][]api.Ratio {
	points := [][]api.Ratio{randomPoint(g, n), randomPoint(g, n)}
	for _, l := range lists {
		for k := range min(3, len(l)) {
			border := most(l[k].B, l[k].A...)
			lists = append(lists, with(l, border, opposite(less(border.B, border.A...))))
		}
	}
	for _, l := range lists {
		if p, e := Point(n, l); e == api.OK {
			points = append(points, p)
		}
	}
	return points
}

// hasValue tells whether some value of the coordinate i, put into a point,
// makes it meet all lines: by the exact ends of these values.
func hasValue(l []api.Line, i int, p []api.Ratio) bool {
	var lower, upper *big.Rat
	lowerOpen, upperOpen := false, false
	point := slices.Insert(slices.Clone(p), i, r(0, 1))
	for _, x := range l {
		room := new(big.Rat).Sub(new(big.Rat).SetInt64(x.B), exact(x.A, point))
		switch {
		case x.A[i] == 0 && (room.Sign() < 0 || room.Sign() == 0 && x.Strict):
			return false
		case x.A[i] == 0:
			continue
		}
		bound := room.Quo(room, new(big.Rat).SetInt64(x.A[i]))
		if x.A[i] < 0 && (lower == nil || bound.Cmp(lower) >= 0) {
			lowerOpen = x.Strict || lowerOpen && bound.Cmp(lower) == 0
			lower = bound
		}
		if x.A[i] > 0 && (upper == nil || bound.Cmp(upper) <= 0) {
			upperOpen = x.Strict || upperOpen && bound.Cmp(upper) == 0
			upper = bound
		}
	}
	if lower == nil || upper == nil {
		return true
	}
	order := lower.Cmp(upper)
	return order < 0 || order == 0 && !lowerOpen && !upperOpen
}

// P7.9: a point meets Without just if some value makes it meet the list.
func TestWithoutIsTheProjection(t *testing.T) {
	answers := map[bool]int{}
	eachList(11, 4, func(g *rand.Rand, n int, l []api.Line) {
		for i := range n {
			left, e := Without(n, l, i)
			if e != api.OK {
				continue
			}
			points := somePoints(g, n-1, left)
			for _, p := range somePoints(g, n, l) {
				points = append(points, slices.Delete(slices.Clone(p), i, i+1))
			}
			for _, p := range points {
				want := hasValue(l, i, p)
				if got := meets(left, p); got != want {
					t.Errorf("%v without the coordinate %d: the point %v: %v, want %v", l, i, p, got, want)
				}
				answers[want]++
			}
		}
	})
	if answers[true] < 5000 || answers[false] < 2000 {
		t.Errorf("%v", answers)
	}
}

// P7.9: a point that meets the list still meets it without a coordinate, also by Has.
func TestPointsKeepMeeting(t *testing.T) {
	count := 0
	eachList(12, 4, func(g *rand.Rand, n int, l []api.Line) {
		for _, p := range somePoints(g, n, l) {
			for i := range n {
				left, e := Without(n, l, i)
				if e != api.OK || !meets(l, p) {
					continue
				}
				got, e := Has(n-1, left, slices.Delete(slices.Clone(p), i, i+1))
				if e == api.OK {
					checkBool(t, got, e, true, api.OK, "Has of a projection", l, i, p)
					count++
				}
			}
		}
	})
	if count < 3000 {
		t.Errorf("only %d points", count)
	}
}

// P7.3, P7.10: a point of the list meets it, and there is one just if the list is not empty.
func TestPointMeetsTheList(t *testing.T) {
	met := tally{}
	eachList(13, 40, func(g *rand.Rand, n int, l []api.Line) {
		p, e := Point(n, l)
		met[e]++
		if e != api.OK {
			return
		}
		if !meets(l, p) {
			t.Errorf("Point(%d, %v) is %v, which does not meet the list", n, l, p)
		}
		if is, e := Has(n, l, p); e == api.OK {
			checkBool(t, is, e, true, api.OK, "Has", n, l, p)
		}
		empty, e := Empty(n, l)
		checkBool(t, empty, e, false, api.OK, "Empty", n, l)
	})
	met.check(t, 1000, api.OK, api.ErrNone)
}

// P7.3: no point meets an empty list.
func TestNothingMeetsAnEmptyList(t *testing.T) {
	count := 0
	eachList(14, 10, func(g *rand.Rand, n int, l []api.Line) {
		if empty, _ := Empty(n, l); !empty {
			return
		}
		for _, p := range somePoints(g, n, l, l[1:], l[:len(l)-1]) {
			if meets(l, p) {
				t.Errorf("%v is called empty, but %v meets it", l, p)
			}
			count++
		}
	})
	if count < 1000 {
		t.Errorf("only %d points", count)
	}
}

// P7.4: the points of a list meet what it implies; if it does not imply a line,
// there is a point that does not meet the line.
func TestImpliesByPoints(t *testing.T) {
	answers := map[bool]int{}
	eachList(15, 10, func(g *rand.Rand, n int, l []api.Line) {
		x := randomLine(g, 3, make([]int64, n))
		if len(l) > 0 && g.IntN(2) == 0 {
			x = like(g, 3, l[g.IntN(len(l))])
		}
		implied, e := Implies(n, l, x)
		if e != api.OK {
			return
		}
		answers[implied]++
		if !implied {
			if p, e := Point(n, with(l, opposite(x))); e == api.OK && (!meets(l, p) || meets(list(x), p)) {
				t.Errorf("%v: %v is no point that does not meet %v", l, p, x)
			}
			return
		}
		for _, p := range somePoints(g, n, l) {
			if meets(l, p) && !meets(list(x), p) {
				t.Errorf("%v implies %v, but for %v", l, x, p)
			}
		}
	})
	if answers[true] < 500 || answers[false] < 500 {
		t.Errorf("%v", answers)
	}
}

// P7.10: a point of a is in b, or in exactly one of the results of Minus; one
// that is not is in none.
func TestMinusByPoints(t *testing.T) {
	inside, beyond, outside := 0, 0, 0
	eachList(16, 5, func(g *rand.Rand, n int, l []api.Line) {
		some := g.IntN(len(l) + 1)
		for _, c := range [][2][]api.Line{{l[:some], l[some:]}, {randomList(g, n, 3, 2), l}, {l, randomList(g, n, 3, 3)}} {
			a, b := c[0], c[1]
			parts, e := Minus(n, a, b)
			if e != api.OK {
				continue
			}
			for _, p := range somePoints(g, n, slices.Concat(parts, [][]api.Line{a, b, with(a, b...)})...) {
				count := 0
				for _, l := range parts {
					if meets(l, p) {
						count++
					}
				}
				want := 0
				switch {
				case !meets(a, p):
					outside++
				case meets(b, p):
					inside++
				default:
					beyond++
					want = 1
				}
				if count != want {
					t.Errorf("Minus(%d, %v, %v): %v is in %d parts, want %d", n, a, b, p, count, want)
				}
			}
		}
	})
	if min(inside, beyond, outside) < 2000 {
		t.Errorf("%d, %d, %d", inside, beyond, outside)
	}
}

// P7.7: no result of Minus is empty.
func TestPartsAreNotEmpty(t *testing.T) {
	count := 0
	eachList(17, 5, func(g *rand.Rand, n int, l []api.Line) {
		parts, _ := Minus(n, randomList(g, n, 3, 2), l)
		for _, part := range parts {
			empty, e := Empty(n, part)
			checkBool(t, empty, e, false, api.OK, "Empty of a part", part)
			count++
		}
	})
	if count < 500 {
		t.Errorf("only %d parts", count)
	}
}

// sumIs returns the line that says that the sum is at most a bound, or less.
func sumIs(a []int64, bound *big.Rat, strict bool) (x api.Line, isLine bool) {
	x = api.Line{B: bound.Num().Int64(), Strict: strict}
	for _, factor := range a {
		x.A = append(x.A, factor*bound.Denom().Int64())
	}
	return x, bound.Num().IsInt64() && fit(x.A...) && fit(x.B)
}

// P7.11: the sum at a point is never below Least, and above it if it is not attained.
func TestNothingIsBelowLeast(t *testing.T) {
	counts := map[bool]int{}
	eachList(18, 10, func(g *rand.Rand, n int, l []api.Line) {
		a := factors(g, n, l)
		low, attained, e := Least(n, l, a)
		if e != api.OK {
			return
		}
		for _, p := range somePoints(g, n, l) {
			if !meets(l, p) {
				continue
			}
			counts[attained]++
			if order := exact(a, p).Cmp(number(low)); order < 0 || order == 0 && !attained {
				t.Errorf("Least(%d, %v, %v) is %v, %v, but not for %v", n, l, a, low, attained, p)
			}
		}
	})
	if counts[true] < 1000 || counts[false] < 200 {
		t.Errorf("%v", counts)
	}
}

// factors returns those of a sum that is often bounded by a list.
func factors(g *rand.Rand, n int, l []api.Line) []int64 {
	if len(l) > 0 && g.IntN(3) > 0 {
		return opposite(l[g.IntN(len(l))]).A
	}
	return randomLine(g, 2, make([]int64, n)).A
}

// P7.8, P7.11: Least is the infimum: the sum is not below it, is it if it is
// attained, and comes as near as one likes.
func TestLeastIsTheInfimum(t *testing.T) {
	counts := map[bool]int{}
	eachList(19, 10, func(g *rand.Rand, n int, l []api.Line) {
		a := factors(g, n, l)
		low, attained, e := Least(n, l, a)
		if e != api.OK {
			return
		}
		near := new(big.Rat).Add(number(low), big.NewRat(1, 1000))
		for _, c := range []struct {
			bound  *big.Rat
			strict bool
			want   bool
		}{{number(low), true, true}, {number(low), false, !attained}, {near, false, false}} {
			x, isLine := sumIs(a, c.bound, c.strict)
			if !isLine {
				continue
			}
			if empty, e := Empty(n, with(l, x)); e == api.OK {
				checkBool(t, empty, e, c.want, api.OK, "Empty of a sum", l, x)
				counts[empty]++
			}
		}
	})
	if counts[true] < 500 || counts[false] < 500 {
		t.Errorf("%v", counts)
	}
}

// P7.8: there is no least sum just if there is no point, or there are sums below all numbers.
func TestNoLeast(t *testing.T) {
	nothing, boundless := 0, 0
	eachList(20, 20, func(g *rand.Rand, n int, l []api.Line) {
		a := factors(g, n, l)
		if _, _, e := Least(n, l, a); e != api.ErrNone {
			return
		}
		far, isLine := sumIs(a, big.NewRat(-1000000, 1), false)
		empty, e := Empty(n, l)
		none, eFar := Empty(n, with(l, far))
		switch {
		case e != api.OK || eFar != api.OK || !isLine:
		case empty:
			nothing++
		case none:
			t.Errorf("Least(%d, %v, %v) tells ErrNone, but no sum is below %d", n, l, a, far.B)
		default:
			boundless++
		}
	})
	if nothing < 200 || boundless < 200 {
		t.Errorf("%d, %d", nothing, boundless)
	}
}

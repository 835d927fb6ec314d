package zone

import (
	"math/big"
	"math/rand/v2"
	"slices"
	"testing"

	"foliot/api"
	"foliot/ratio"
)

// inRange tells whether the sum of a ratio and an integer is a ratio.
func inRange(a api.Ratio, c int64) bool {
	_, ok := ratioOf(new(big.Rat).Add(number(a), new(big.Rat).SetInt64(c)))
	return ok
}

// scaleOf returns the least common denominator of the values, and whether it is small enough for the tests.
func scaleOf(p []api.Ratio) (int64, bool) {
	scale := big.NewInt(1)
	for _, a := range p {
		den := big.NewInt(a.Den)
		common := new(big.Int).GCD(nil, nil, scale, den)
		scale.Mul(scale, den.Div(den, common))
		if scale.BitLen() > 20 {
			return 0, false
		}
	}
	return scale.Int64(), true
}

// sayPoint says that the clocks 1 and so on, divided by scale, have these values.
func (s *system) sayPoint(p []api.Ratio, scale int64) {
	for i, a := range p {
		s.equal(i+1, 0, a.Num*(scale/a.Den))
	}
}

// interval returns what a variable minus another one may be, divided by scale, if it is from 0 on.
func (s *system) interval(i, j int, scale int64) api.Delays {
	high, low := s.bounds[i][j], s.bounds[j][i]
	lowEnd, _ := ratioOf(big.NewRat(-low.c, scale))
	d := api.Delays{Low: lowEnd, LowOpen: low.strict, NoHigh: high.none}
	if !high.none {
		d.High, _ = ratioOf(big.NewRat(high.c, scale))
		d.HighOpen = high.strict
	}
	return d
}

// element returns a bound of a zone.
func element(z api.Zone, i, j int) bound { return boundOf(z.M[i*(z.N+1)+j]) }

// expectedHas returns what Has has to return for a zone and a list of values that are valid and not below 0.
func expectedHas(z api.Zone, p []api.Ratio) (bool, api.Errno) {
	for _, a := range p {
		for _, b := range p {
			if _, ok := ratioOf(new(big.Rat).Sub(number(a), number(b))); !ok {
				return false, api.ErrRange
			}
		}
	}
	return contains(z, exact(p)), api.OK
}

// expectedStay returns what Stay has to return, likewise.
func expectedStay(z api.Zone, p []api.Ratio, scale int64) (api.Delays, api.Errno) {
	if _, e := expectedHas(z, p); e != api.OK {
		return api.Delays{}, e
	}
	for i, a := range p {
		upper, lower := element(z, i+1, 0), element(z, 0, i+1)
		if !upper.none && !inRange(r(-a.Num, a.Den), upper.c) || !inRange(a, lower.c) {
			return api.Delays{}, api.ErrRange
		}
	}
	// Behind the delay d the clocks are at p, and the clock 0 is at -d.
	then := z.N + 1
	s := newSystem(z.N + 2)
	s.sayPoint(p, scale)
	s.sayScaled(z, renamed(z.N, 0, then), scale)
	s.say(then, 0, weak(0))
	walks, possible := s.walks()
	if !possible {
		return api.Delays{}, api.ErrNone
	}
	return walks.interval(0, then, scale), api.OK
}

// expectedPoint returns what Point has to return, if numbers remain small enough for this.
func expectedPoint(z api.Zone) (p []api.Ratio, e api.Errno, found bool) {
	for i := 1; i <= z.N; i++ {
		for j, a := range append(point(0), p...) {
			upper, lower := element(z, i, j), element(z, j, i)
			if !upper.none && !inRange(a, upper.c) || !lower.none && !inRange(a, -lower.c) {
				return nil, api.ErrRange, true
			}
		}
		scale, ok := scaleOf(p)
		if !ok {
			return nil, 0, false
		}
		s := newSystem(z.N + 1)
		s.sayScaled(z, clocks(z.N), scale)
		s.sayPoint(p, scale)
		walks, _ := s.walks()
		all := walks.interval(i, 0, scale)
		value := all.Low
		if all.LowOpen && all.NoHigh {
			value, e = ratio.Add(all.Low, r(1, 1))
		} else if all.LowOpen {
			value, e = ratio.Middle(all.Low, all.High)
		}
		if e != api.OK {
			return nil, e, true
		}
		p = append(p, value)
	}
	return p, api.OK, true
}

// pointsAround returns points in a zone, at its ends, beside it, and before it in time.
func pointsAround(g *rand.Rand, z api.Zone, size int64) [][]api.Ratio {
	start, e := Point(z)
	if e != api.OK {
		start = make([]api.Ratio, z.N)
		for i := range start {
			start[i] = r(g.Int64N(size+1), 1)
		}
	}
	all := [][]api.Ratio{start}
	for range 6 {
		p := exact(start)
		together := big.NewRat(g.Int64N(2*size+3)-size-1, 1+g.Int64N(3))
		for i := range p {
			p[i].Add(p[i], together)
			if g.IntN(4) == 0 {
				p[i].Add(p[i], big.NewRat(g.Int64N(5)-2, 2))
			}
		}
		near := make([]api.Ratio, z.N)
		for i := range p {
			value, ok := ratioOf(p[i])
			if !ok || value.Num < 0 {
				value = r(0, 1)
			}
			near[i] = value
		}
		all = append(all, near)
	}
	return all
}

// P3.7
func TestHas(t *testing.T) {
	all, nothing := must(t)(All(1)), must(t)(All(0))
	open := zoneOf(2, 1, -4, -2, 6, 1, 3, 4, -1, 1) // the clock 1 is above 2 and less than 3, the clock 2 is 1 less
	far := zoneOf(1, 1, weak(least), none, 1)
	for _, c := range []struct {
		z    api.Zone
		p    []api.Ratio
		want bool
		e    api.Errno
	}{
		{nothing, nil, true, api.OK}, {nothing, []api.Ratio{}, true, api.OK}, {nothing, point(0), false, api.ErrArg},
		{all, point(0), true, api.OK}, {all, point(api.MaxRatio), true, api.OK}, {all, []api.Ratio{r(1, api.MaxRatio)}, true, api.OK}, {all, nil, false, api.ErrArg}, {all, point(0, 0), false, api.ErrArg},
		{all, point(-1), false, api.ErrArg}, {all, []api.Ratio{r(-1, api.MaxRatio)}, false, api.ErrArg},
		{open, []api.Ratio{r(5, 2), r(3, 2)}, true, api.OK}, {open, point(2, 1), false, api.OK}, {open, point(3, 2), false, api.OK}, {open, []api.Ratio{r(5, 2), r(5, 3)}, false, api.OK},
		{open, []api.Ratio{r(5, 2), r(4, 3)}, false, api.OK}, {open, point(2), false, api.ErrArg}, {open, point(3, -1), false, api.ErrArg}, {open, point(2, 1, 0), false, api.ErrArg},
		{far, point(most), true, api.OK}, {far, point(most - 1), false, api.OK}, {far, point(most + 1), true, api.OK}, {far, []api.Ratio{r(api.MaxRatio, 2)}, false, api.OK},
		// Differences that are out of range, also for a point that is not in the zone anyway.
		{open, []api.Ratio{r(1, api.MaxRatio), r(1, 2)}, false, api.ErrRange}, {open, []api.Ratio{r(1, 2), r(1, api.MaxRatio)}, false, api.ErrRange},
		{open, []api.Ratio{r(api.MaxRatio, 1), r(1, 2)}, false, api.ErrRange}, {open, []api.Ratio{r(1, 65537), r(1, 65536)}, false, api.ErrRange},
		{open, []api.Ratio{r(1, 65536), r(3, 65536)}, false, api.OK}, {open, []api.Ratio{r(api.MaxRatio, 1), r(0, 1)}, false, api.OK},
		{must(t)(All(3)), []api.Ratio{r(0, 1), r(1, api.MaxRatio), r(1, 2)}, false, api.ErrRange}, {must(t)(Zero(3)), []api.Ratio{r(1, api.MaxRatio), r(0, 1), r(1, 2)}, false, api.ErrRange},
		// What is not valid is told before that.
		{must(t)(Zero(3)), []api.Ratio{r(1, api.MaxRatio), r(1, 2), r(-1, 1)}, false, api.ErrArg}, {must(t)(Zero(3)), []api.Ratio{r(1, api.MaxRatio), r(1, 2), r(2, 4)}, false, api.ErrArg}, {must(t)(Zero(3)), []api.Ratio{r(1, api.MaxRatio), r(1, 2), {}}, false, api.ErrArg},
	} {
		if in, e := Has(c.z, c.p); in != c.want || e != c.e {
			t.Errorf("Has(%v, %v): %v, %d", c.z, c.p, in, e)
		}
	}
}

// P3.7, P3.9: points with a value that is no ratio, at each place.
func TestInvalidPoints(t *testing.T) {
	for _, n := range []int{1, 2, api.MaxDim} {
		z := must(t)(All(n))
		for _, bad := range append(invalidRatios(), r(-1, 1), r(-1, api.MaxRatio), r(-api.MaxRatio, 1)) {
			for i := range n {
				p := slices.Repeat(point(0), n)
				p[i] = bad
				if in, e := Has(z, p); in || e != api.ErrArg {
					t.Errorf("Has(%v): %v, %d", p, in, e)
				}
				if d, e := Stay(z, p); d != (api.Delays{}) || e != api.ErrArg {
					t.Errorf("Stay(%v): %v, %d", p, d, e)
				}
			}
		}
		for _, size := range []int{0, n - 1, n + 1, 2 * n} {
			p := slices.Repeat(point(0), size)
			if size == n {
				continue
			}
			if in, e := Has(z, p); in || e != api.ErrArg {
				t.Errorf("Has(%v): %v, %d", p, in, e)
			}
			if d, e := Stay(z, p); d != (api.Delays{}) || e != api.ErrArg {
				t.Errorf("Stay(%v): %v, %d", p, d, e)
			}
		}
	}
}

// P3.7, P3.9
func TestHasAndStayAreExact(t *testing.T) {
	inside, told := 0, map[api.Errno]int{}
	eachZone(5, func(g *rand.Rand, z api.Zone, size int64) {
		for _, p := range pointsAround(g, loosened(g, z), size) {
			want, wantE := expectedHas(z, p)
			in, e := Has(z, p)
			if in != want || e != wantE {
				t.Errorf("Has(%v, %v): %v, %d; want %v, %d", z, p, in, e, want, wantE)
			}
			if in {
				inside++
			}
			scale, ok := scaleOf(p)
			if !ok {
				continue
			}
			wantD, wantE := expectedStay(z, p, scale)
			d, e := Stay(z, p)
			told[e]++
			if d != wantD || e != wantE {
				t.Errorf("Stay(%v, %v): %v, %d; want %v, %d", z, p, d, e, wantD, wantE)
			}
		}
	})
	if inside < 100 || told[api.OK] < 100 || told[api.ErrNone] < 100 || told[api.ErrRange] < 20 {
		t.Errorf("%d points are inside; told of Stay: %v", inside, told)
	}
}

// P3.8
func TestPoint(t *testing.T) {
	for _, c := range []struct {
		z api.Zone
		p []api.Ratio
		e api.Errno
	}{
		{zoneOf(0, 1), nil, api.OK}, {must(t)(All(3)), point(0, 0, 0), api.OK}, {must(t)(Zero(10)), slices.Repeat(point(0), 10), api.OK},
		{zoneOf(2, 1, -3, 1, none, 1, none, 1, -3, 1), point(2, 0), api.OK},
		{zoneOf(1, 1, -4, 6, 1), []api.Ratio{r(5, 2)}, api.OK}, {zoneOf(1, 1, -4, 7, 1), []api.Ratio{r(5, 2)}, api.OK}, {zoneOf(1, 1, -4, 8, 1), point(3), api.OK}, {zoneOf(1, 1, -4, 100, 1), point(3), api.OK},
		{zoneOf(1, 1, -5, 8, 1), point(3), api.OK}, {zoneOf(1, 1, 0, none, 1), point(1), api.OK}, {zoneOf(1, 1, -4, none, 1), point(3), api.OK}, {zoneOf(1, 1, 0, 2, 1), []api.Ratio{r(1, 2)}, api.OK},
		{zoneOf(2, 1, -4, -2, 6, 1, 3, 4, -1, 1), []api.Ratio{r(5, 2), r(3, 2)}, api.OK},
		// 0 < the clock 1 < the clock 2 < the clock 3 < 1.
		{must(t)(Close(3, []api.Limit{1, 0, none, none, none, 1, 0, none, none, none, 1, 0, 2, none, none, 1})), []api.Ratio{r(1, 2), r(2, 3), r(3, 4)}, api.OK},
		{must(t)(Close(3, []api.Limit{1, none, none, 0, 2, 1, none, none, none, 0, 1, none, none, none, 0, 1})), []api.Ratio{r(1, 2), r(1, 3), r(1, 4)}, api.OK},
		// The clock 2 is above the clock 1, which is above 0: without an upper end, 1 is added.
		{must(t)(Close(2, []api.Limit{1, 0, 1, none, 1, 0, none, none, 1})), point(1, 2), api.OK},
		{must(t)(Close(2, []api.Limit{1, 0, 1, 2, 1, 0, none, none, 1})), []api.Ratio{r(1, 2), r(3, 2)}, api.OK},
		// Two ends at one place, the one strict, the other one not.
		{must(t)(Close(2, []api.Limit{1, -3, -3, 5, 1, 0, none, none, 1})), point(2, 3), api.OK},
		{must(t)(Close(2, []api.Limit{1, -3, -4, 5, 1, none, none, 3, 1})), []api.Ratio{r(2, 1), r(5, 2)}, api.OK},
		{must(t)(Close(2, []api.Limit{1, -3, -4, 5, 1, none, 6, 3, 1})), []api.Ratio{r(2, 1), r(5, 2)}, api.OK},
		{zoneOf(1, 1, weak(least), none, 1), point(most), api.OK}, {zoneOf(1, 1, strict(least), none, 1), point(most + 1), api.OK}, {zoneOf(1, 1, strict(1-most), strict(most), 1), []api.Ratio{r(api.MaxRatio, 2)}, api.OK},
	} {
		p, e := Point(c.z)
		if !slices.Equal(p, c.p) || e != c.e {
			t.Errorf("Point(%v): %v, %d; want %v, %d", c.z, p, e, c.p, c.e)
		}
	}
}

// P3.8: each of these zones has points, but an end or the choice is out of range.
func TestPointOutOfRange(t *testing.T) {
	high, low := int64(weak(most)), int64(strict(1-most)) // at most 2^30; 0 minus a clock, if this is above 2^30 - 1
	for _, c := range []struct {
		what string
		n    int
		l    []api.Constraint
		e    api.Errno
	}{
		{"an upper end that is not needed: the clock 1 is 1/2, the clock 2 minus it is less than 2^30", 2, constraints(0, 1, 0, 1, 0, 2, 2, 0, high), api.ErrRange},
		{"the same, less than 2^30 - 1", 2, constraints(0, 1, 0, 1, 0, 2, 2, 0, high-2), api.OK},
		{"a lower end: the clock 1 is 2^30 - 1/2, the clock 2 minus it is at least 1", 2, constraints(0, 1, low, 1, 0, high-1, 1, 2, -1), api.ErrRange},
		{"the same, at least 0", 2, constraints(0, 1, low, 1, 0, high-1, 1, 2, 1), api.OK},
		{"the lower end plus 1: the clock 2 is above the clock 1", 2, constraints(0, 1, low, 1, 0, high-1, 1, 2, 0), api.ErrRange},
		{"the same, 1 less", 2, constraints(0, 1, low+2, 1, 0, high-3, 1, 2, 0), api.OK},
		{"what is between both ends: the clock 2 is above the clock 1 and less than 2^30", 2, constraints(0, 1, low, 1, 0, high-1, 1, 2, 0, 2, 0, high-1), api.ErrRange},
		{"the same, between 0 and 1", 2, constraints(0, 1, 0, 1, 0, 2, 1, 2, 0, 2, 0, 2), api.OK},
		{"a lower end far below 0: the clocks 1 to 3 are 1, 1/2 and 1/3", 4, constraints(0, 3, 0, 3, 2, 0, 2, 1, 0, 1, 0, high), api.ErrRange},
		{"the same for 1 and 1/2", 4, constraints(0, 2, 0, 2, 1, 0, 1, 0, high), api.OK},
	} {
		z := must(t)(And(must(t)(All(c.n)), c.l))
		p, e := Point(z)
		if e != c.e || e != api.OK && len(p) != 0 {
			t.Errorf("%s: %v, %d; want %d", c.what, p, e, c.e)
		}
	}
}

// P3.8
func TestPointIsExact(t *testing.T) {
	told := map[api.Errno]int{}
	eachZone(12, func(g *rand.Rand, z api.Zone, size int64) {
		for _, z := range []api.Zone{z, loosened(g, z)} {
			want, wantE, found := expectedPoint(z)
			if !found {
				continue
			}
			p, e := Point(z)
			told[e]++
			if !slices.Equal(p, want) || e != wantE {
				t.Errorf("Point(%v): %v, %d; want %v, %d", z, p, e, want, wantE)
			}
		}
	})
	if told[api.OK] < 100 || told[api.ErrRange] < 10 {
		t.Errorf("told: %v", told)
	}
}

// P3.9
func TestStay(t *testing.T) {
	nothing, all := must(t)(All(0)), must(t)(All(2))
	closed, open := zoneOf(1, 1, -5, 11, 1), zoneOf(1, 1, -6, 10, 1)
	strip := zoneOf(2, 1, -4, -2, 6, 1, 3, 4, -1, 1) // the clock 1 is above 2 and less than 3, the clock 2 is 1 less
	since := api.Delays{Low: r(0, 1), NoHigh: true}
	for _, c := range []struct {
		z api.Zone
		p []api.Ratio
		d api.Delays
		e api.Errno
	}{
		{nothing, nil, since, api.OK}, {all, point(3, 4), since, api.OK}, {all, []api.Ratio{r(1, 3), r(api.MaxRatio, 3)}, since, api.OK},
		{closed, point(1), api.Delays{Low: r(2, 1), High: r(4, 1)}, api.OK}, {closed, []api.Ratio{r(1, 2)}, api.Delays{Low: r(5, 2), High: r(9, 2)}, api.OK}, {closed, point(6), api.Delays{}, api.ErrNone},
		{closed, point(3), api.Delays{Low: r(0, 1), High: r(2, 1)}, api.OK}, {closed, point(4), api.Delays{Low: r(0, 1), High: r(1, 1)}, api.OK}, {closed, point(5), api.Delays{Low: r(0, 1), High: r(0, 1)}, api.OK},
		{open, point(1), api.Delays{Low: r(2, 1), High: r(4, 1), LowOpen: true, HighOpen: true}, api.OK}, {open, point(3), api.Delays{Low: r(0, 1), High: r(2, 1), LowOpen: true, HighOpen: true}, api.OK},
		{open, point(4), api.Delays{Low: r(0, 1), High: r(1, 1), HighOpen: true}, api.OK}, {open, point(5), api.Delays{}, api.ErrNone}, {open, point(6), api.Delays{}, api.ErrNone},
		{zoneOf(1, 1, -6, none, 1), point(1), api.Delays{Low: r(2, 1), LowOpen: true, NoHigh: true}, api.OK}, {zoneOf(1, 1, -6, none, 1), point(9), since, api.OK},
		{strip, point(1, 0), api.Delays{Low: r(1, 1), High: r(2, 1), LowOpen: true, HighOpen: true}, api.OK}, {strip, point(1, 1), api.Delays{}, api.ErrNone}, {strip, point(3, 2), api.Delays{}, api.ErrNone}, {strip, point(2, 0), api.Delays{}, api.ErrNone},
		// The clock 1 is from 3 on and the clock 2 above 2, up to 4 and below 5: ends at one place, of which one is strict.
		{must(t)(Close(2, []api.Limit{1, -5, -4, 9, 1, none, 10, none, 1})), point(1, 0), api.Delays{Low: r(2, 1), High: r(3, 1), LowOpen: true}, api.OK},
		{must(t)(Close(2, []api.Limit{1, -5, -4, 9, 1, none, 10, none, 1})), point(0, 1), api.Delays{Low: r(3, 1), High: r(4, 1), HighOpen: true}, api.OK},
		{must(t)(Close(2, []api.Limit{1, -5, -4, 7, 1, none, 10, none, 1})), point(1, 0), api.Delays{}, api.ErrNone}, // it would be 2, if that were not below its end
		{must(t)(Close(2, []api.Limit{1, -5, 1, none, 1, none, 4, none, 1})), point(1, 0), api.Delays{}, api.ErrNone},
		{must(t)(Close(2, []api.Limit{1, -5, 1, none, 1, none, 5, none, 1})), point(1, 0), api.Delays{Low: r(2, 1), High: r(2, 1)}, api.OK},
		{must(t)(Close(2, []api.Limit{1, -6, 1, none, 1, none, 5, none, 1})), point(1, 0), api.Delays{}, api.ErrNone},
	} {
		if d, e := Stay(c.z, c.p); d != c.d || e != c.e {
			t.Errorf("Stay(%v, %v): %v, %d; want %v, %d", c.z, c.p, d, e, c.d, c.e)
		}
	}
}

// P3.9: an end that is out of range is told before that there are no delays, and an error of Has before it.
func TestStayOutOfRange(t *testing.T) {
	third := []api.Ratio{r(1, 3)}
	for _, c := range []struct {
		z api.Zone
		p []api.Ratio
		e api.Errno
	}{
		{zoneOf(1, 1, 1, weak(most), 1), third, api.ErrRange}, {zoneOf(1, 1, weak(least), none, 1), third, api.ErrRange}, {zoneOf(1, 1, 1, none, 1), third, api.OK},
		{zoneOf(1, 1, 1, weak(most), 1), point(0), api.OK}, {zoneOf(1, 1, weak(least), none, 1), point(0), api.OK}, {zoneOf(1, 1, 1, weak(most), 1), []api.Ratio{r(1, 2)}, api.OK}, {zoneOf(1, 1, weak(least), none, 1), []api.Ratio{r(1, 2)}, api.OK},
		{zoneOf(1, 1, weak(least), weak(most), 1), point(api.MaxRatio), api.ErrNone}, {zoneOf(1, 1, 1, weak(most), 1), []api.Ratio{r(api.MaxRatio, 2)}, api.OK}, {zoneOf(1, 1, 1, weak(0), 1), point(api.MaxRatio), api.ErrNone},
		// The clock 2 is too far behind the clock 1, or the delay is over.
		{zoneOf(2, 1, 1, 1, weak(most), 1, 1, weak(most), 1, 1), []api.Ratio{r(1, 3), r(4, 3)}, api.ErrRange}, {zoneOf(2, 1, 1, 1, 3, 1, 3, weak(most), weak(most), 1), []api.Ratio{r(5, 1), r(1, 3)}, api.ErrRange},
		{zoneOf(2, 1, 1, 1, weak(most), 1, weak(most), 3, 3, 1), []api.Ratio{r(1, 3), r(5, 1)}, api.ErrRange}, {zoneOf(2, 1, 1, 1, 3, 1, 3, 3, 3, 1), []api.Ratio{r(1, 3), r(5, 1)}, api.ErrNone},
		{must(t)(All(2)), []api.Ratio{r(1, api.MaxRatio), r(1, 2)}, api.ErrRange}, {must(t)(Zero(2)), []api.Ratio{r(1, 2), r(1, api.MaxRatio)}, api.ErrRange}, {must(t)(All(2)), []api.Ratio{r(1, api.MaxRatio), r(-1, 2)}, api.ErrArg},
		{must(t)(All(3)), []api.Ratio{r(1, api.MaxRatio), r(1, 2), r(2, 4)}, api.ErrArg},
	} {
		d, e := Stay(c.z, c.p)
		if e != c.e || e != api.OK && d != (api.Delays{}) {
			t.Errorf("Stay(%v, %v): %v, %d; want %d", c.z, c.p, d, e, c.e)
		}
	}
}

package zone

import (
	"math"
	"math/rand/v2"
	"slices"
	"testing"

	"foliot/api"
)

// constraints returns a list of constraints, from numbers by threes.
func constraints(l ...int64) []api.Constraint {
	var all []api.Constraint
	for i := 0; i < len(l); i += 3 {
		all = append(all, api.Constraint{I: int(l[i]), J: int(l[i+1]), L: api.Limit(l[i+2])})
	}
	return all
}

// P3.3
func TestAnd(t *testing.T) {
	two, one, nothing := must(t)(All(2)), must(t)(All(1)), must(t)(All(0))
	since := must(t)(Up(must(t)(Zero(2))))
	for _, c := range []struct {
		z    api.Zone
		l    []api.Constraint
		want []api.Limit
		e    api.Errno
	}{
		{two, nil, []api.Limit{1, 1, 1, none, 1, none, none, none, 1}, api.OK},
		{two, constraints(1, 0, 11, 2, 0, 6), []api.Limit{1, 1, 1, 11, 1, 11, 6, 6, 1}, api.OK},
		{two, constraints(1, 0, 11, 2, 0, 6, 1, 0, 12, 2, 0, int64(none)), []api.Limit{1, 1, 1, 11, 1, 11, 6, 6, 1}, api.OK},
		{two, constraints(1, 0, 12, 2, 0, 6, 1, 0, 11), []api.Limit{1, 1, 1, 11, 1, 11, 6, 6, 1}, api.OK},
		{since, constraints(0, 1, -3), []api.Limit{1, -3, -3, none, 1, 1, none, 1, 1}, api.OK},
		{since, constraints(0, 1, -3, 2, 0, 4), nil, api.ErrNone},
		{since, constraints(0, 1, -3, 2, 0, 5), slices.Clone([]api.Limit{1, -3, -3, 5, 1, 1, 5, 1, 1}), api.OK},
		{since, constraints(1, 2, 0), nil, api.ErrNone},
		{one, constraints(1, 0, -1), nil, api.ErrNone}, {one, constraints(1, 0, 0), nil, api.ErrNone}, {one, constraints(1, 0, 1), []api.Limit{1, 1, 1, 1}, api.OK},
		{one, constraints(0, 1, 9), []api.Limit{1, 1, none, 1}, api.OK}, {one, constraints(0, 1, 1), []api.Limit{1, 1, none, 1}, api.OK}, {one, constraints(0, 1, 0), []api.Limit{1, 0, none, 1}, api.OK},
		{one, constraints(1, 0, 2<<30+1, 0, 1, -2<<30+1), []api.Limit{1, weak(least), weak(most), 1}, api.OK}, {one, constraints(1, 0, 2<<30, 0, 1, -2<<30+1), nil, api.ErrNone},
		// The difference of a clock and itself is 0.
		{one, constraints(1, 1, 1), []api.Limit{1, 1, none, 1}, api.OK}, {one, constraints(1, 1, 2), []api.Limit{1, 1, none, 1}, api.OK}, {one, constraints(1, 1, 0), nil, api.ErrNone}, {one, constraints(1, 1, -1), nil, api.ErrNone},
		{one, constraints(0, 0, int64(none)), []api.Limit{1, 1, none, 1}, api.OK}, {one, constraints(0, 0, 0), nil, api.ErrNone},
		{nothing, nil, []api.Limit{1}, api.OK}, {nothing, constraints(0, 0, 1), []api.Limit{1}, api.OK}, {nothing, constraints(0, 0, 0), nil, api.ErrNone},
		// Out of range: up to 2^30 and then 1 more; the same and empty.
		{two, constraints(1, 0, 2<<30+1, 2, 1, 3), nil, api.ErrRange}, {two, constraints(1, 0, 2<<30+1, 2, 1, 2), nil, api.ErrRange}, {two, constraints(1, 0, 2<<30+1, 2, 1, 1), []api.Limit{1, 1, 1, weak(most), 1, weak(most), weak(most), 1, 1}, api.OK},
		{two, constraints(0, 1, -2<<30+1, 1, 2, -1), nil, api.ErrRange}, {two, constraints(0, 1, -2<<30+1, 1, 2, -1, 0, 0, 0), nil, api.ErrNone}, {two, constraints(0, 1, -2<<30+1, 1, 2, -1, 2, 0, 2<<30+1), nil, api.ErrNone},
	} {
		want := api.Zone{N: c.z.N, M: c.want}
		if c.e != api.OK {
			want = api.Zone{}
		}
		got, e := And(c.z, c.l)
		checkZone(t, got, e, want, c.e, "And", c.z, c.l)
	}
}

// P3.3: clock numbers and limits just beyond their ends; they are told before an empty set.
func TestAndOfNoConstraints(t *testing.T) {
	for _, n := range []int{0, 1, 2, api.MaxDim} {
		z := must(t)(All(n))
		bad := constraints(-1, 0, 1, 0, -1, 1, int64(n+1), 0, 1, 0, int64(n+1), 1, math.MinInt64, 0, 1, 0, math.MaxInt64, 1, -1, -1, 1)
		for _, l := range invalidLimits() {
			bad = append(bad, api.Constraint{L: l}, api.Constraint{I: n, L: l}, api.Constraint{J: n, L: l})
		}
		for _, c := range bad {
			for _, l := range [][]api.Constraint{{c}, {{L: 0}, c}, {c, {L: 0}}, {{}, {L: 1}, c}} {
				got, e := And(z, l)
				checkZone(t, got, e, api.Zone{}, api.ErrArg, "And", n, l)
			}
		}
		if n > 0 {
			got, e := And(z, []api.Constraint{{I: n, J: n, L: 1}, {I: n, L: none}, {J: n, L: none}})
			checkZone(t, got, e, z, api.OK, "And", n)
		}
	}
}

// P3.3
func TestAndIsExact(t *testing.T) {
	told := map[api.Errno]int{}
	eachZone(6, func(g *rand.Rand, z api.Zone, size int64) {
		var l []api.Constraint
		for range g.IntN(4) {
			l = append(l, api.Constraint{I: g.IntN(z.N + 1), J: g.IntN(z.N + 1), L: randomLimit(g, size)})
		}
		s := newSystem(z.N + 1)
		s.sayZone(z, clocks(z.N))
		for _, c := range l {
			s.say(c.I, c.J, c.L)
		}
		want, wantE := s.answer(z.N)
		got, e := And(z, l)
		told[e]++
		checkZone(t, got, e, want, wantE, "And", z, l)
	})
	if told[api.OK] < 50 || told[api.ErrNone] < 50 {
		t.Errorf("told: %v", told)
	}
}

// P3.4
func TestUpAndDown(t *testing.T) {
	for _, c := range []struct{ z, up, down api.Zone }{
		{zoneOf(0, 1), zoneOf(0, 1), zoneOf(0, 1)},
		{zoneOf(1, 1, 1, none, 1), zoneOf(1, 1, 1, none, 1), zoneOf(1, 1, 1, none, 1)},
		{zoneOf(1, 1, -4, 6, 1), zoneOf(1, 1, -4, none, 1), zoneOf(1, 1, 1, 6, 1)},
		{zoneOf(1, 1, 0, 7, 1), zoneOf(1, 1, 0, none, 1), zoneOf(1, 1, 1, 7, 1)},
		{zoneOf(1, 1, strict(least), none, 1), zoneOf(1, 1, strict(least), none, 1), zoneOf(1, 1, 1, none, 1)},
		{zoneOf(1, 1, weak(least), weak(most), 1), zoneOf(1, 1, weak(least), none, 1), zoneOf(1, 1, 1, weak(most), 1)},
		{zoneOf(2, 1, 1, 1, 1, 1, 1, 1, 1, 1), zoneOf(2, 1, 1, 1, none, 1, 1, none, 1, 1), zoneOf(2, 1, 1, 1, 1, 1, 1, 1, 1, 1)},
		{zoneOf(2, 1, 1, 1, 11, 1, 11, 6, 6, 1), zoneOf(2, 1, 1, 1, none, 1, 11, none, 6, 1), zoneOf(2, 1, 1, 1, 11, 1, 11, 6, 6, 1)},
		// The clock 1 is 5, the clock 2 is 3: before it was from 2 on, or above that.
		{zoneOf(2, 1, -9, -5, 11, 1, 5, 7, -3, 1), zoneOf(2, 1, -9, -5, none, 1, 5, none, -3, 1), zoneOf(2, 1, -3, 1, 11, 1, 5, 7, -3, 1)},
		{zoneOf(2, 1, -10, -5, none, 1, none, 7, -4, 1), zoneOf(2, 1, -10, -5, none, 1, none, none, -4, 1), zoneOf(2, 1, -4, 1, none, 1, none, 7, -4, 1)},
	} {
		got, e := Up(c.z)
		checkZone(t, got, e, c.up, api.OK, "Up", c.z)
		got, e = Down(c.z)
		checkZone(t, got, e, c.down, api.OK, "Down", c.z)
	}
}

// P3.4: p is the result's point and d the delay; for Up the clock 0 was d then, for Down it was -d.
func TestUpAndDownAreExact(t *testing.T) {
	eachZone(6, func(g *rand.Rand, z api.Zone, size int64) {
		then := z.N + 1
		up, down := newSystem(z.N+2), newSystem(z.N+2)
		up.sayZone(z, renamed(z.N, 0, then))
		up.say(0, then, weak(0))
		want, wantE := up.answer(z.N)
		got, e := Up(z)
		checkZone(t, got, e, want, wantE, "Up", z)
		down.sayZone(z, renamed(z.N, 0, then))
		down.say(then, 0, weak(0))
		want, wantE = down.answer(z.N)
		got, e = Down(z)
		checkZone(t, got, e, want, wantE, "Down", z)
	})
}

// P3.5
func TestChangesOfOneClock(t *testing.T) {
	all, c := must(t)(All(2)), zoneOf(2, 1, -3, -3, none, 1, 1, none, 1, 1)
	reset := zoneOf(2, 1, -3, 1, none, 1, none, 1, -3, 1)
	for _, x := range []struct {
		what string
		f    func() (api.Zone, api.Errno)
		want []api.Limit
		e    api.Errno
	}{
		{"Reset to 0", func() (api.Zone, api.Errno) { return Reset(c, 2, 0) }, reset.M, api.OK},
		{"Reset to 3", func() (api.Zone, api.Errno) { return Reset(c, 1, 3) }, []api.Limit{1, -5, -3, 7, 1, 3, none, none, 1}, api.OK},
		{"Reset to MaxConst", func() (api.Zone, api.Errno) { return Reset(all, 1, 1<<20) }, []api.Limit{1, -2<<20 + 1, 1, 2<<20 + 1, 1, 2<<20 + 1, none, none, 1}, api.OK},
		{"Free of 1", func() (api.Zone, api.Errno) { return Free(reset, 1) }, []api.Limit{1, 1, 1, none, 1, none, 1, 1, 1}, api.OK},
		{"Free of 2", func() (api.Zone, api.Errno) { return Free(reset, 2) }, []api.Limit{1, -3, 1, none, 1, none, none, none, 1}, api.OK},
		{"Copy of 1 to 2", func() (api.Zone, api.Errno) { return Copy(reset, 2, 1) }, c.M, api.OK},
		{"Copy of 2 to 1", func() (api.Zone, api.Errno) { return Copy(reset, 1, 2) }, []api.Limit{1, 1, 1, 1, 1, 1, 1, 1, 1}, api.OK},
		{"Copy of 0 to 2", func() (api.Zone, api.Errno) { return Copy(c, 2, 0) }, reset.M, api.OK},
		{"Copy of 1 to 1", func() (api.Zone, api.Errno) { return Copy(c, 1, 1) }, c.M, api.OK},
		{"Before 0", func() (api.Zone, api.Errno) { return Before(reset, 2, 0) }, []api.Limit{1, -3, 1, none, 1, none, none, none, 1}, api.OK},
		{"Before 1", func() (api.Zone, api.Errno) { return Before(reset, 2, 1) }, nil, api.ErrNone},
		{"Before 5", func() (api.Zone, api.Errno) { return Before(c, 1, 5) }, []api.Limit{1, 1, -9, none, 1, none, 11, 11, 1}, api.OK},
		{"Before 2", func() (api.Zone, api.Errno) { return Before(c, 1, 2) }, []api.Limit{1, 1, -3, none, 1, none, 5, 5, 1}, api.OK},
		{"Before 1 of at least 2", func() (api.Zone, api.Errno) { return Before(c, 1, 1) }, nil, api.ErrNone},
		{"Before MaxConst", func() (api.Zone, api.Errno) { return Before(all, 2, 1<<20) }, all.M, api.OK},
	} {
		want := api.Zone{N: 2, M: x.want}
		if x.e != api.OK {
			want = api.Zone{}
		}
		got, e := x.f()
		checkZone(t, got, e, want, x.e, x.what)
	}
}

// P3.5: of a clock at an end of an interval, and next to it, with strict and weak ends.
func TestBeforeAtTheEnds(t *testing.T) {
	all := must(t)(All(1))
	for _, c := range []struct {
		lower, upper api.Limit
		to           int64
		e            api.Errno
	}{
		{-5, 11, 2, api.ErrNone}, {-5, 11, 3, api.OK}, {-5, 11, 5, api.OK}, {-5, 11, 6, api.ErrNone},
		{-6, 10, 3, api.ErrNone}, {-6, 10, 4, api.OK}, {-6, 10, 5, api.ErrNone}, {1, 1, 0, api.OK}, {0, 2, 0, api.ErrNone}, {0, 2, 1, api.ErrNone},
		{1, none, api.MaxConst, api.OK}, {weak(-api.MaxConst), none, api.MaxConst, api.OK}, {strict(-api.MaxConst), none, api.MaxConst, api.ErrNone}, {weak(least), none, api.MaxConst, api.ErrNone},
	} {
		z := must(t)(Close(1, []api.Limit{1, c.lower, c.upper, 1}))
		want := all
		if c.e != api.OK {
			want = api.Zone{}
		}
		got, e := Before(z, 1, c.to)
		checkZone(t, got, e, want, c.e, "Before", z, c.to)
	}
}

// P3.5: only Before leads out of range: the clock 2 is at most 2^30 above the clock 1, which is to be c.
func TestBeforeOutOfRange(t *testing.T) {
	for _, c := range []struct {
		l  api.Limit
		to int64
		e  api.Errno
	}{
		{weak(most), 0, api.OK}, {weak(most), 1, api.ErrRange}, {strict(most), 1, api.ErrRange}, {weak(most - 1), 1, api.OK},
		{weak(most), api.MaxConst, api.ErrRange}, {weak(most - api.MaxConst), api.MaxConst, api.OK}, {strict(most - api.MaxConst + 1), api.MaxConst, api.ErrRange},
	} {
		z := must(t)(Close(2, []api.Limit{1, none, none, none, 1, none, none, c.l, 1}))
		got, e := Before(z, 1, c.to)
		if e != c.e || (e == api.OK) != (Check(got) == api.OK) || e != api.OK && got.M != nil {
			t.Errorf("Before(%v, 1, %d): %v, %d", z, c.to, got, e)
		}
		// If the clock 1 cannot be c at all, nothing is left that could be out of range.
		z = must(t)(And(z, []api.Constraint{{J: 1, L: strict(-api.MaxConst)}}))
		if got, e := Before(z, 1, c.to); e != api.ErrNone || got.M != nil {
			t.Errorf("Before(%v, 1, %d): %v, %d", z, c.to, got, e)
		}
	}
}

// P3.5: the old value of the clock i is a variable of its own.
func TestChangesOfOneClockAreExact(t *testing.T) {
	told := map[api.Errno]int{}
	eachZone(6, func(g *rand.Rand, z api.Zone, size int64) {
		if z.N == 0 {
			return
		}
		z = loosened(g, z)
		i, j, c, old := 1+g.IntN(z.N), g.IntN(z.N+1), g.Int64N(min(2*size, api.MaxConst)+1), z.N+1
		said := func(more func(s *system)) (api.Zone, api.Errno) {
			s := newSystem(z.N + 2)
			s.sayZone(z, renamed(z.N, i, old))
			more(s)
			return s.answer(z.N)
		}
		want, wantE := said(func(s *system) { s.equal(i, 0, c) })
		got, e := Reset(z, i, c)
		checkZone(t, got, e, want, wantE, "Reset", z, i, c)
		want, wantE = said(func(s *system) {})
		got, e = Free(z, i)
		checkZone(t, got, e, want, wantE, "Free", z, i)
		want, wantE = said(func(s *system) { s.equal(i, renamed(z.N, i, old)[j], 0) })
		got, e = Copy(z, i, j)
		checkZone(t, got, e, want, wantE, "Copy", z, i, j)
		want, wantE = said(func(s *system) { s.equal(old, 0, c) })
		got, e = Before(z, i, c)
		checkZone(t, got, e, want, wantE, "Before", z, i, c)
		told[e]++
	})
	if told[api.OK] < 50 || told[api.ErrNone] < 50 {
		t.Errorf("told of Before: %v", told)
	}
}

// P3.5: clock numbers and constants at and beyond their ends.
func TestNoClocksAndNoConstants(t *testing.T) {
	for _, n := range []int{0, 1, 2, api.MaxDim} {
		z := must(t)(All(n))
		check := func(e, want api.Errno, got api.Zone, what string, args ...any) {
			t.Helper()
			if e != want || e != api.OK && (got.N != 0 || got.M != nil) {
				t.Errorf("%s%v of the dimension %d: %v, %d", what, args, n, got, e)
			}
		}
		for _, i := range []int{math.MinInt, -1, 0, 1, n, n + 1, math.MaxInt} {
			isClock := 1 <= i && i <= n
			want := map[bool]api.Errno{false: api.ErrArg, true: api.OK}[isClock]
			got, e := Free(z, i)
			check(e, want, got, "Free", i)
			for _, j := range []int{math.MinInt, -1, 0, 1, n, n + 1, math.MaxInt} {
				want := map[bool]api.Errno{false: api.ErrArg, true: api.OK}[isClock && 0 <= j && j <= n]
				got, e := Copy(z, i, j)
				check(e, want, got, "Copy", i, j)
			}
			for _, c := range []int64{math.MinInt64, -1, 0, 1, api.MaxConst, api.MaxConst + 1, most, math.MaxInt64} {
				want := map[bool]api.Errno{false: api.ErrArg, true: api.OK}[isClock && 0 <= c && c <= api.MaxConst]
				got, e := Reset(z, i, c)
				check(e, want, got, "Reset", i, c)
				got, e = Before(z, i, c)
				check(e, want, got, "Before", i, c)
			}
		}
	}
}

// P3.6
func TestMeetAndHull(t *testing.T) {
	for _, c := range []struct {
		a, b, meet, hull api.Zone
		e                api.Errno
	}{
		{zoneOf(0, 1), zoneOf(0, 1), zoneOf(0, 1), zoneOf(0, 1), api.OK},
		{zoneOf(1, 1, -5, 11, 1), zoneOf(1, 1, -9, 15, 1), zoneOf(1, 1, -9, 11, 1), zoneOf(1, 1, -5, 15, 1), api.OK},
		// They touch in 5: both weak, one strict.
		{zoneOf(1, 1, -5, 11, 1), zoneOf(1, 1, -9, none, 1), zoneOf(1, 1, -9, 11, 1), zoneOf(1, 1, -5, none, 1), api.OK},
		{zoneOf(1, 1, -5, 10, 1), zoneOf(1, 1, -9, none, 1), zoneOf(0), zoneOf(1, 1, -5, none, 1), api.ErrNone},
		{zoneOf(1, 1, -5, 11, 1), zoneOf(1, 1, -10, none, 1), zoneOf(0), zoneOf(1, 1, -5, none, 1), api.ErrNone},
		{zoneOf(1, 1, -5, 12, 1), zoneOf(1, 1, -10, none, 1), zoneOf(1, 1, -10, 12, 1), zoneOf(1, 1, -5, none, 1), api.OK},
		{zoneOf(1, 1, -5, 8, 1), zoneOf(1, 1, -7, none, 1), zoneOf(0), zoneOf(1, 1, -5, none, 1), api.ErrNone},
		{zoneOf(1, 1, -5, 9, 1), zoneOf(1, 1, -7, none, 1), zoneOf(1, 1, -7, 9, 1), zoneOf(1, 1, -5, none, 1), api.OK},
		{zoneOf(1, 1, -5, 9, 1), zoneOf(1, 1, -8, none, 1), zoneOf(0), zoneOf(1, 1, -5, none, 1), api.ErrNone},
		{zoneOf(1, 1, 1, weak(most), 1), zoneOf(1, 1, weak(least), none, 1), zoneOf(1, 1, weak(least), weak(most), 1), zoneOf(1, 1, 1, none, 1), api.OK},
		{zoneOf(1, 1, 1, weak(most), 1), zoneOf(1, 1, strict(least), none, 1), zoneOf(0), zoneOf(1, 1, 1, none, 1), api.ErrNone},
		{zoneOf(2, 1, 1, 1, 11, 1, 11, 6, 6, 1), zoneOf(2, 1, -3, -3, none, 1, 1, none, 1, 1), zoneOf(2, 1, -3, -3, 6, 1, 1, 6, 1, 1), zoneOf(2, 1, 1, 1, none, 1, 11, none, 6, 1), api.OK},
		{zoneOf(2, 1, 1, 1, 1, 1, 1, 1, 1, 1), zoneOf(2, 1, -3, -3, 6, 1, 1, 6, 1, 1), zoneOf(0), zoneOf(2, 1, 1, 1, 6, 1, 1, 6, 1, 1), api.ErrNone},
	} {
		want := c.meet
		if c.e != api.OK {
			want = api.Zone{}
		}
		for _, pair := range [][2]api.Zone{{c.a, c.b}, {c.b, c.a}} {
			got, e := Meet(pair[0], pair[1])
			checkZone(t, got, e, want, c.e, "Meet", pair)
			got, e = Hull(pair[0], pair[1])
			checkZone(t, got, e, c.hull, api.OK, "Hull", pair)
		}
	}
}

// P3.6: the intersection is out of range, and out of range but empty.
func TestMeetOutOfRange(t *testing.T) {
	below := must(t)(Close(2, []api.Limit{1, none, none, weak(most), 1, none, none, none, 1}))
	apart := must(t)(Close(2, []api.Limit{1, none, none, none, 1, none, none, weak(1), 1}))
	got, e := Meet(below, apart)
	checkZone(t, got, e, api.Zone{}, api.ErrRange, "Meet", below, apart)
	apart = must(t)(And(apart, []api.Constraint{{J: 1, L: strict(least)}}))
	got, e = Meet(below, apart)
	checkZone(t, got, e, api.Zone{}, api.ErrNone, "Meet", below, apart)
}

// P3.6
func TestPairsAreExact(t *testing.T) {
	told := map[api.Errno]int{}
	eachZone(6, func(g *rand.Rand, a api.Zone, size int64) {
		b := randomZone(g, a.N, size)
		s := newSystem(a.N + 1)
		s.sayZone(a, clocks(a.N))
		s.sayZone(b, clocks(a.N))
		want, wantE := s.answer(a.N)
		got, e := Meet(a, b)
		told[e]++
		checkZone(t, got, e, want, wantE, "Meet", a, b)
		hull := api.Zone{N: a.N}
		for place := range a.M {
			hull.M = append(hull.M, max(a.M[place], b.M[place]))
		}
		got, e = Hull(a, b)
		checkZone(t, got, e, hull, api.OK, "Hull", a, b)
		// b is in a exactly if it is the intersection.
		in, e := Includes(a, b)
		if e != api.OK || in != (wantE == api.OK && slices.Equal(want.M, b.M)) {
			t.Errorf("Includes(%v, %v): %v, %d", a, b, in, e)
		}
	})
	if told[api.OK] < 50 || told[api.ErrNone] < 50 {
		t.Errorf("told of Meet: %v", told)
	}
}

// P3.6
func TestIncludes(t *testing.T) {
	for _, c := range []struct {
		a, b api.Zone
		want bool
	}{
		{zoneOf(0, 1), zoneOf(0, 1), true},
		{zoneOf(1, 1, 1, none, 1), zoneOf(1, 1, -5, 11, 1), true}, {zoneOf(1, 1, -5, 11, 1), zoneOf(1, 1, 1, none, 1), false},
		{zoneOf(1, 1, -5, 11, 1), zoneOf(1, 1, -6, 10, 1), true}, {zoneOf(1, 1, -6, 11, 1), zoneOf(1, 1, -5, 10, 1), false}, {zoneOf(1, 1, -5, 10, 1), zoneOf(1, 1, -6, 11, 1), false},
		{zoneOf(1, 1, 1, weak(most), 1), zoneOf(1, 1, 1, none, 1), false}, {zoneOf(1, 1, 1, weak(most), 1), zoneOf(1, 1, 1, strict(most), 1), true},
		{zoneOf(2, 1, 1, 1, none, 1, none, none, none, 1), zoneOf(2, 1, 1, 1, none, 1, 1, none, 1, 1), true}, {zoneOf(2, 1, 1, 1, none, 1, 1, none, 1, 1), zoneOf(2, 1, 1, 1, none, 1, none, none, 1, 1), false},
	} {
		if in, e := Includes(c.a, c.b); in != c.want || e != api.OK {
			t.Errorf("Includes(%v, %v): %v, %d", c.a, c.b, in, e)
		}
	}
}

// P3.6: zones of different dimensions.
func TestPairsOfOtherDimensions(t *testing.T) {
	for n := range api.MaxDim + 1 {
		for m := range api.MaxDim + 1 {
			a, b := must(t)(All(n)), must(t)(Zero(m))
			want := map[bool]api.Errno{false: api.ErrArg, true: api.OK}[n == m]
			meet, e := Meet(a, b)
			hull, f := Hull(a, b)
			in, g := Includes(a, b)
			if e != want || f != want || g != want || in != (n == m) {
				t.Errorf("dimensions %d and %d: %d, %d, %d", n, m, e, f, g)
			}
			if n != m && (meet.N != 0 || meet.M != nil || hull.N != 0 || hull.M != nil) {
				t.Errorf("dimensions %d and %d: %v, %v", n, m, meet, hull)
			}
		}
	}
}

// P3.3 to P3.9: zones that are not valid.
func TestInvalidZones(t *testing.T) {
	good := must(t)(All(1))
	for _, z := range invalidZones() {
		for what, f := range map[string]func() (api.Zone, api.Errno){
			"And":            func() (api.Zone, api.Errno) { return And(z, nil) },
			"And of nothing": func() (api.Zone, api.Errno) { return And(z, []api.Constraint{{L: 0}}) },
			"Up":             func() (api.Zone, api.Errno) { return Up(z) },
			"Down":           func() (api.Zone, api.Errno) { return Down(z) },
			"Reset":          func() (api.Zone, api.Errno) { return Reset(z, 1, 0) },
			"Free":           func() (api.Zone, api.Errno) { return Free(z, 1) },
			"Copy":           func() (api.Zone, api.Errno) { return Copy(z, 1, 0) },
			"Before":         func() (api.Zone, api.Errno) { return Before(z, 1, 0) },
			"Meet":           func() (api.Zone, api.Errno) { return Meet(z, good) },
			"Meet behind":    func() (api.Zone, api.Errno) { return Meet(good, z) },
			"Meet of both":   func() (api.Zone, api.Errno) { return Meet(z, z) },
			"Hull":           func() (api.Zone, api.Errno) { return Hull(z, good) },
			"Hull behind":    func() (api.Zone, api.Errno) { return Hull(good, z) },
			"Hull of both":   func() (api.Zone, api.Errno) { return Hull(z, z) },
		} {
			got, e := f()
			checkZone(t, got, e, api.Zone{}, api.ErrArg, what, z)
		}
		for _, pair := range [][2]api.Zone{{z, good}, {good, z}, {z, z}} {
			if in, e := Includes(pair[0], pair[1]); in || e != api.ErrArg {
				t.Errorf("Includes(%v): %v, %d", pair, in, e)
			}
		}
		for _, p := range [][]api.Ratio{nil, point(0), point(0, 0)} {
			if in, e := Has(z, p); in || e != api.ErrArg {
				t.Errorf("Has(%v, %v): %v, %d", z, p, in, e)
			}
			if d, e := Stay(z, p); d != (api.Delays{}) || e != api.ErrArg {
				t.Errorf("Stay(%v, %v): %v, %d", z, p, d, e)
			}
		}
		if p, e := Point(z); len(p) != 0 || e != api.ErrArg {
			t.Errorf("Point(%v): %v, %d", z, p, e)
		}
	}
}

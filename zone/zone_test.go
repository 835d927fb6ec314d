package zone

import (
	"math"
	"math/rand/v2"
	"slices"
	"testing"

	"foliot/api"
)

// P3.1
func TestCheck(t *testing.T) {
	for _, z := range []api.Zone{
		zoneOf(0, 1), zoneOf(1, 1, 1, none, 1), zoneOf(1, 1, 0, none, 1), zoneOf(1, 1, 1, 1, 1), zoneOf(1, 1, -4, 6, 1), zoneOf(1, 1, -5, 7, 1),
		zoneOf(1, 1, weak(least), none, 1), zoneOf(1, 1, strict(least), none, 1), zoneOf(1, 1, weak(least), weak(most), 1), zoneOf(1, 1, 1, strict(most), 1),
		zoneOf(2, 1, 1, 1, 11, 1, 11, 6, 6, 1), zoneOf(2, 1, 1, 1, none, 1, weak(most), none, weak(most), 1),
		zoneOf(2, 1, weak(least), 1, none, 1, none, none, weak(least), 1), zoneOf(2, 1, weak(least), 1, weak(most), 1, weak(most), 1, weak(least), 1),
		{N: 10, M: slices.Repeat([]api.Limit{1}, 121)},
	} {
		if e := Check(z); e != api.OK {
			t.Errorf("Check(%v): %d", z, e)
		}
	}
	for _, z := range invalidZones() {
		if e := Check(z); e != api.ErrArg {
			t.Errorf("Check(%v): %d", z, e)
		}
	}
}

// P3.1: a zone is valid; with any element changed it is valid only if the matrix is canonical still.
func TestCheckIsExact(t *testing.T) {
	valid, invalid := 0, 0
	eachZone(2, func(g *rand.Rand, z api.Zone, size int64) {
		if e := Check(z); e != api.OK {
			t.Errorf("Check(%v): %d", z, e)
		}
		for range 5 {
			other := api.Zone{N: z.N, M: slices.Clone(z.M)}
			other.M[g.IntN(len(z.M))] += api.Limit(g.IntN(3) - 1)
			want := api.ErrArg
			s := newSystem(z.N + 1)
			s.sayZone(other, clocks(z.N))
			if closed, e := s.answer(z.N); e == api.OK && slices.Equal(closed.M, other.M) {
				want = api.OK
				valid++
			} else {
				invalid++
			}
			if e := Check(other); e != want {
				t.Errorf("Check(%v): %d", other, e)
			}
		}
	})
	if valid < 100 || invalid < 100 {
		t.Errorf("only %d valid and %d other matrices", valid, invalid)
	}
}

// P3.1
func TestSame(t *testing.T) {
	all := append(invalidZones(), zoneOf(0, 1), zoneOf(1, 1, 1, none, 1), zoneOf(1, 1, 0, none, 1), zoneOf(2, 1, 1, 1, 11, 1, 11, 6, 6, 1))
	for i, a := range all {
		for j, b := range all {
			want := a.N == b.N && slices.Equal(a.M, b.M)
			copied := api.Zone{N: b.N, M: append(make([]api.Limit, 0, 200), b.M...)}
			if Same(a, copied) != want || i == j && !want {
				t.Errorf("Same(%v, %v) is not %v", a, b, want)
			}
		}
	}
	for _, c := range []struct {
		a, b api.Zone
		want bool
	}{
		{api.Zone{}, api.Zone{M: []api.Limit{}}, true}, {api.Zone{N: 5}, api.Zone{N: 5, M: []api.Limit{}}, true}, {api.Zone{N: 5}, api.Zone{N: -5}, false},
		{zoneOf(0, 1), zoneOf(1, 1), false}, {zoneOf(1, 1, 1), zoneOf(1, 1), false}, {zoneOf(1, 1), zoneOf(1, 1, 1), false}, {zoneOf(1, 1, 1, 1, 1), zoneOf(1, 1, 1, 1, 3), false},
	} {
		if Same(c.a, c.b) != c.want {
			t.Errorf("Same(%v, %v) is not %v", c.a, c.b, c.want)
		}
	}
}

// P3.2
func TestZeroAndAll(t *testing.T) {
	for n := range api.MaxDim + 1 {
		all := api.Zone{N: n}
		for i := range n + 1 {
			for j := range n + 1 {
				if i == 0 || i == j {
					all.M = append(all.M, 1)
				} else {
					all.M = append(all.M, none)
				}
			}
		}
		got, e := All(n)
		checkZone(t, got, e, all, api.OK, "All", n)
		got, e = Zero(n)
		checkZone(t, got, e, api.Zone{N: n, M: slices.Repeat([]api.Limit{1}, (n+1)*(n+1))}, api.OK, "Zero", n)
	}
	for _, n := range []int{-1, 11, -2, 12, math.MaxInt, math.MinInt, 1<<32 - 1} {
		got, e := All(n)
		checkZone(t, got, e, api.Zone{}, api.ErrArg, "All", n)
		got, e = Zero(n)
		checkZone(t, got, e, api.Zone{}, api.ErrArg, "Zero", n)
	}
}

// P3.2
func TestClose(t *testing.T) {
	for _, c := range []struct {
		n    int
		m    []api.Limit
		want []api.Limit
		e    api.Errno
	}{
		{0, []api.Limit{1}, []api.Limit{1}, api.OK}, {0, []api.Limit{none}, []api.Limit{1}, api.OK}, {0, []api.Limit{2}, []api.Limit{1}, api.OK},
		{0, []api.Limit{0}, nil, api.ErrNone}, {0, []api.Limit{-1}, nil, api.ErrNone}, {0, []api.Limit{strict(least)}, nil, api.ErrNone},
		{1, []api.Limit{1, -3, 3, 1}, nil, api.ErrNone}, {1, []api.Limit{5, none, none, 9}, []api.Limit{1, 1, none, 1}, api.OK},
		{1, []api.Limit{none, 7, 6, none}, []api.Limit{1, 1, 6, 1}, api.OK}, {1, []api.Limit{1, 1, 1, 0}, nil, api.ErrNone}, {1, []api.Limit{0, 1, none, 1}, nil, api.ErrNone},
		{1, []api.Limit{1, none, 0, 1}, nil, api.ErrNone}, {1, []api.Limit{1, none, 1, 1}, []api.Limit{1, 1, 1, 1}, api.OK}, {1, []api.Limit{1, none, -1, 1}, nil, api.ErrNone},
		// From 3 to 3: both ends weak, one of them strict, both strict.
		{1, []api.Limit{1, -5, 7, 1}, []api.Limit{1, -5, 7, 1}, api.OK}, {1, []api.Limit{1, -6, 7, 1}, nil, api.ErrNone}, {1, []api.Limit{1, -5, 6, 1}, nil, api.ErrNone}, {1, []api.Limit{1, -6, 6, 1}, nil, api.ErrNone},
		{1, []api.Limit{1, -6, 8, 1}, []api.Limit{1, -6, 8, 1}, api.OK},
		{1, []api.Limit{weak(most), weak(least), weak(most), weak(most)}, []api.Limit{1, weak(least), weak(most), 1}, api.OK},
		{1, []api.Limit{1, strict(least), weak(most), 1}, nil, api.ErrNone}, {1, []api.Limit{1, strict(least), none, 1}, []api.Limit{1, strict(least), none, 1}, api.OK},
		{1, []api.Limit{1, 1, strict(least), 1}, nil, api.ErrNone},
		{2, []api.Limit{1, none, none, none, 1, 11, 5, none, 1}, []api.Limit{1, 1, 1, 15, 1, 11, 5, 5, 1}, api.OK},
		{2, []api.Limit{1, none, none, none, 1, 10, 5, none, 1}, []api.Limit{1, 1, 1, 14, 1, 10, 5, 5, 1}, api.OK},
		{2, []api.Limit{1, none, none, none, 1, -1, none, 3, 1}, []api.Limit{1, 1, -1, none, 1, -1, none, 3, 1}, api.OK},
		{2, []api.Limit{1, none, none, none, 1, -1, none, 1, 1}, nil, api.ErrNone},
	} {
		got, e := Close(c.n, c.m)
		want := api.Zone{N: c.n, M: c.want}
		if c.e != api.OK {
			want = api.Zone{}
		}
		checkZone(t, got, e, want, c.e, "Close", c.n, c.m)
	}
}

// P3.2: what is no dimension, or no matrix of it.
func TestCloseOfNoMatrix(t *testing.T) {
	for _, n := range []int{-1, -2, 11, 12, math.MaxInt, math.MinInt, 1<<32 - 1, 1 << 32} {
		for _, m := range [][]api.Limit{nil, {1}, slices.Repeat([]api.Limit{1}, 144), slices.Repeat([]api.Limit{1}, 121)} {
			got, e := Close(n, m)
			checkZone(t, got, e, api.Zone{}, api.ErrArg, "Close", n, len(m))
		}
	}
	for n := range api.MaxDim + 1 {
		for _, size := range []int{0, 1, n * n, n*n + 2*n, n*n + 2*n + 2, (n + 2) * (n + 2), 200} {
			if size == (n+1)*(n+1) {
				continue
			}
			got, e := Close(n, slices.Repeat([]api.Limit{1}, size))
			checkZone(t, got, e, api.Zone{}, api.ErrArg, "Close", n, size)
		}
	}
	for _, l := range invalidLimits() {
		for place := range 9 {
			// A set that is empty otherwise, as the matrix is looked at first.
			m := []api.Limit{1, -3, 1, 1, 1, 1, 1, 1, 1}
			m[place] = l
			got, e := Close(2, m)
			checkZone(t, got, e, api.Zone{}, api.ErrArg, "Close", m)
		}
	}
}

// P3.2: also sets that are empty, and canonical matrices that are out of range.
func TestCloseIsExact(t *testing.T) {
	told := map[api.Errno]int{}
	g := rand.New(rand.NewPCG(3, 4))
	for n := range api.MaxDim + 1 {
		for _, size := range sizes() {
			for range 80 {
				m := randomMatrix(g, n, size)
				for range g.IntN(3 * len(m)) {
					m[g.IntN(len(m))] = none // the paths get longer
				}
				for range g.IntN(3) {
					m[g.IntN(len(m))] = randomLimit(g, size)
				}
				s := newSystem(n + 1)
				s.sayZone(api.Zone{N: n, M: m}, clocks(n))
				want, wantE := s.answer(n)
				got, e := Close(n, m)
				told[e]++
				checkZone(t, got, e, want, wantE, "Close", n, m)
			}
		}
	}
	for _, e := range []api.Errno{api.OK, api.ErrNone, api.ErrRange} {
		if told[e] < 100 {
			t.Errorf("%d is told only %d times", e, told[e])
		}
	}
}

// P3.2: matrices of which all elements are as great, or as small, as they may be.
func TestCloseOfExtremes(t *testing.T) {
	for n := range api.MaxDim + 1 {
		for _, l := range []api.Limit{weak(most), strict(most), weak(least), strict(least), weak(most / 2), strict(least / 2), 0, 1, 2, none} {
			m := slices.Repeat([]api.Limit{l}, (n+1)*(n+1))
			s := newSystem(n + 1)
			s.sayZone(api.Zone{N: n, M: m}, clocks(n))
			want, wantE := s.answer(n)
			got, e := Close(n, m)
			checkZone(t, got, e, want, wantE, "Close", n, l)
		}
	}
}

// chainMatrix returns the matrix in which each clock minus the one before it meets l, and the other way round back.
func chainMatrix(n int, l, back api.Limit) []api.Limit {
	m := slices.Repeat([]api.Limit{none}, (n+1)*(n+1))
	for i := range n {
		m[(i+1)*(n+1)+i], m[i*(n+1)+i+1] = l, back
	}
	return m
}

// P3.2: ErrNone is told before ErrRange, however far the paths lead that show it.
func TestCloseOutOfRange(t *testing.T) {
	for n := 2; n <= api.MaxDim; n++ {
		half := int64(most / n)
		for _, c := range []struct {
			l, back api.Limit
			e       api.Errno
		}{
			{weak(half), none, api.OK}, {strict(half), none, api.OK}, {weak(most), none, api.ErrRange}, {strict(half + 1), none, api.ErrRange},
			{none, weak(-half), api.OK}, {none, weak(-half - 1), api.ErrRange}, {none, strict(least), api.ErrRange},
			{weak(most), weak(least), api.ErrRange}, {weak(most), strict(least), api.ErrNone}, {strict(most), weak(least), api.ErrNone}, {weak(most - 1), weak(least), api.ErrNone},
		} {
			if _, e := Close(n, chainMatrix(n, c.l, c.back)); e != c.e {
				t.Errorf("Close of a chain of %d with %d and %d: %d, want %d", n, c.l, c.back, e, c.e)
			}
		}
		// The last clock is at least n times MaxBound, by the chain, and at most MaxBound.
		m := chainMatrix(n, none, weak(least))
		m[n*(n+1)] = weak(most)
		if _, e := Close(n, m); e != api.ErrNone {
			t.Errorf("Close of a chain of %d with an end: %d", n, e)
		}
		// The same and one that is out of range only.
		m = chainMatrix(n, weak(most), none)
		m[n] = weak(least)
		if _, e := Close(n, m); e != api.ErrRange {
			t.Errorf("Close of a chain of %d with a start: %d", n, e)
		}
	}
}

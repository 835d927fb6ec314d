package zone

import (
	"math"
	"math/big"
	"math/rand/v2"
	"slices"
	"testing"

	"foliot/api"
)

const (
	most  = api.MaxBound
	least = -api.MaxBound
	none  = api.NoLimit
)

func weak(c int64) api.Limit   { return api.Limit(2*c + 1) }
func strict(c int64) api.Limit { return api.Limit(2 * c) }

func r(num, den int64) api.Ratio { return api.Ratio{Num: num, Den: den} }

// point returns the point with these integers as its values.
func point(values ...int64) []api.Ratio {
	var p []api.Ratio
	for _, v := range values {
		p = append(p, r(v, 1))
	}
	return p
}

// zoneOf returns the zone with this matrix as it is written, valid or not.
func zoneOf(n int, m ...api.Limit) api.Zone { return api.Zone{N: n, M: m} }

// must returns a zone that has to be there.
func must(t *testing.T) func(api.Zone, api.Errno) api.Zone {
	t.Helper()
	return func(z api.Zone, e api.Errno) api.Zone {
		t.Helper()
		if e != api.OK {
			t.Fatalf("no zone: %d", e)
		}
		return z
	}
}

func checkZone(t *testing.T, got api.Zone, e api.Errno, want api.Zone, wantE api.Errno, what string, args ...any) {
	t.Helper()
	if e != wantE || got.N != want.N || !slices.Equal(got.M, want.M) {
		t.Errorf("%s%v: %v, %d; want %v, %d", what, args, got, e, want, wantE)
	}
}

// bound is a limit whose constant has no range.
type bound struct {
	c            int64
	strict, none bool
}

func boundOf(l api.Limit) bound {
	if l == none {
		return bound{none: true}
	}
	c := int64(math.Floor(float64(l) / 2)) // exact, as the limits are below 2^53
	return bound{c: c, strict: int64(l) == 2*c}
}

func (a bound) limit() api.Limit {
	switch {
	case a.none:
		return none
	case a.strict:
		return strict(a.c)
	}
	return weak(a.c)
}

func (a bound) plus(b bound) bound {
	if a.none || b.none {
		return bound{none: true}
	}
	return bound{c: a.c + b.c, strict: a.strict || b.strict}
}

func (a bound) less(b bound) bool {
	if a.none || b.none {
		return !a.none
	}
	return a.c < b.c || a.c == b.c && a.strict && !b.strict
}

// system is a conjunction of bounds of differences of some variables; the first one is 0.
type system struct {
	size   int
	bounds [][]bound
}

func newSystem(size int) *system {
	s := &system{size: size}
	for range size {
		s.bounds = append(s.bounds, slices.Repeat([]bound{{none: true}}, size))
	}
	return s
}

func (s *system) say(i, j int, l api.Limit) { s.sayBound(i, j, boundOf(l)) }

func (s *system) sayBound(i, j int, b bound) {
	if b.less(s.bounds[i][j]) {
		s.bounds[i][j] = b
	}
}

// equal says that the variable i is the variable j plus c.
func (s *system) equal(i, j int, c int64) {
	s.say(i, j, weak(c))
	s.say(j, i, weak(-c))
}

// sayZone says that the variables with these names, the clock 0 among them, are in z.
func (s *system) sayZone(z api.Zone, names []int) { s.sayScaled(z, names, 1) }

// sayScaled says that the variables, divided by scale, are in z.
func (s *system) sayScaled(z api.Zone, names []int, scale int64) {
	for i := range z.N + 1 {
		for j := range z.N + 1 {
			b := boundOf(z.M[i*(z.N+1)+j])
			b.c *= scale
			s.sayBound(names[i], names[j], b)
		}
	}
}

// walks returns the least bounds of all differences, and whether all of it can
// be. It walks along one bound after the other, so that no number gets large.
func (s *system) walks() (*system, bool) {
	walks := newSystem(s.size)
	for i := range s.size {
		walks.say(i, i, weak(0))
	}
	for range s.size {
		next := newSystem(s.size)
		for i := range s.size {
			for j := range s.size {
				next.sayBound(i, j, walks.bounds[i][j])
				for k := range s.size {
					next.sayBound(i, j, walks.bounds[i][k].plus(s.bounds[k][j]))
				}
			}
		}
		walks = next
	}
	for i := range s.size {
		if walks.bounds[i][i].less(bound{}) {
			return nil, false
		}
	}
	return walks, true
}

// answer returns the zone of the first n variables behind 0, which are from 0 on.
func (s *system) answer(n int) (api.Zone, api.Errno) {
	for i := range n + 1 {
		s.say(0, i, weak(0))
	}
	walks, possible := s.walks()
	if !possible {
		return api.Zone{}, api.ErrNone
	}
	z := api.Zone{N: n}
	for i := range n + 1 {
		for j := range n + 1 {
			b := walks.bounds[i][j]
			if !b.none && (b.c < least || b.c > most) {
				return api.Zone{}, api.ErrRange
			}
			z.M = append(z.M, b.limit())
		}
	}
	return z, api.OK
}

// clocks returns the numbers from 0 to n.
func clocks(n int) []int {
	var all []int
	for i := range n + 1 {
		all = append(all, i)
	}
	return all
}

// renamed returns the numbers from 0 to n with another one for i.
func renamed(n, i, to int) []int {
	all := clocks(n)
	all[i] = to
	return all
}

// randomMatrix returns a matrix of valid limits that a valuation with values up to about size meets.
func randomMatrix(g *rand.Rand, n int, size int64) []api.Limit {
	twice := make([]int64, n+1) // the values of the valuation, in halves
	for i := range n {
		twice[i+1] = g.Int64N(2*size + 1)
	}
	var m []api.Limit
	for i := range n + 1 {
		for j := range n + 1 {
			difference := twice[i] - twice[j]
			slack := max(0, g.Int64N(size+3)-size/2-1)
			c := min(most, int64(math.Ceil(float64(difference)/2))+slack)
			switch {
			case g.IntN(3) == 0:
				m = append(m, none)
			case g.IntN(2) == 0 && 2*c > difference:
				m = append(m, strict(c))
			default:
				m = append(m, weak(c))
			}
		}
	}
	return m
}

// randomZone returns a zone with constants up to about size. If clocks without
// an upper bound lead out of range again and again, all of them get one.
func randomZone(g *rand.Rand, n int, size int64) api.Zone {
	for try := 0; ; try++ {
		s := newSystem(n + 1)
		s.sayZone(api.Zone{N: n, M: randomMatrix(g, n, size)}, clocks(n))
		for i := range n + 1 {
			if try > 2 {
				s.say(i, 0, weak(most))
			}
		}
		if z, e := s.answer(n); e == api.OK {
			return z
		}
	}
}

// loosened returns a zone that meets some of the bounds of z only, or z if that is out of range.
func loosened(g *rand.Rand, z api.Zone) api.Zone {
	m := slices.Clone(z.M)
	for range g.IntN(4 * len(m)) {
		m[g.IntN(len(m))] = none
	}
	s := newSystem(z.N + 1)
	s.sayZone(api.Zone{N: z.N, M: m}, clocks(z.N))
	if more, e := s.answer(z.N); e == api.OK {
		return more
	}
	return z
}

// sizes returns the magnitudes of constants that the tests use.
func sizes() []int64 { return []int64{1, 4, 40, api.MaxConst, most / 2, most - 1} }

// eachZone calls f with zones of all dimensions and sizes; they are the same in each run.
func eachZone(count int, f func(g *rand.Rand, z api.Zone, size int64)) {
	g := rand.New(rand.NewPCG(1, 2))
	for n := range api.MaxDim + 1 {
		for _, size := range sizes() {
			for range count {
				f(g, randomZone(g, n, size), size)
			}
		}
	}
}

// randomLimit returns a valid limit with a constant up to size.
func randomLimit(g *rand.Rand, size int64) api.Limit {
	if g.IntN(8) == 0 {
		return none
	}
	c := min(most, max(least, g.Int64N(4*size+1)-2*size))
	if g.IntN(2) == 0 {
		return strict(c)
	}
	return weak(c)
}

// number returns the number that a valid ratio stands for.
func number(a api.Ratio) *big.Rat { return big.NewRat(a.Num, a.Den) }

// ratioOf returns the ratio of a number, and whether it has one.
func ratioOf(x *big.Rat) (api.Ratio, bool) {
	end := big.NewInt(api.MaxRatio)
	if x.Num().CmpAbs(end) > 0 || x.Denom().CmpAbs(end) > 0 {
		return api.Ratio{}, false
	}
	return r(x.Num().Int64(), x.Denom().Int64()), true
}

// meetsExactly tells whether a number meets a limit, by the definition.
func meetsExactly(x *big.Rat, l api.Limit) bool {
	b := boundOf(l)
	if b.none {
		return true
	}
	order := x.Cmp(new(big.Rat).SetInt64(b.c))
	return order < 0 || order == 0 && !b.strict
}

// contains tells whether numbers, those of the clocks 1 to N, meet the matrix of z, by the definition.
func contains(z api.Zone, p []*big.Rat) bool {
	all := append([]*big.Rat{new(big.Rat)}, p...)
	for i, x := range all {
		for j, y := range all {
			if !meetsExactly(new(big.Rat).Sub(x, y), z.M[i*(z.N+1)+j]) {
				return false
			}
		}
	}
	return true
}

func exact(p []api.Ratio) []*big.Rat {
	var all []*big.Rat
	for _, a := range p {
		all = append(all, number(a))
	}
	return all
}

// later returns the numbers with d added to each of them.
func later(p []*big.Rat, d *big.Rat) []*big.Rat {
	var all []*big.Rat
	for _, x := range p {
		all = append(all, new(big.Rat).Add(x, d))
	}
	return all
}

// with returns the numbers with another one for the clock i.
func with(p []*big.Rat, i int, x *big.Rat) []*big.Rat {
	all := slices.Clone(p)
	all[i-1] = x
	return all
}

// invalidLimits returns limits just beside the valid ones, and some far from them.
func invalidLimits() []api.Limit {
	return []api.Limit{
		strict(least) - 1, weak(most) + 1, none - 1, none + 1, -none, 2 * none, 1 << 32, -1 << 32,
		math.MinInt64, math.MinInt64 + 1, math.MaxInt64, math.MaxInt64 - 1,
	}
}

// invalidZones returns zones that break one rule of the definition each.
func invalidZones() []api.Zone {
	ones := func(n int) []api.Limit { return slices.Repeat([]api.Limit{1}, n) }
	all := []api.Zone{
		{}, {N: -1}, {N: -1, M: ones(1)}, {N: -2, M: ones(1)}, {N: 11, M: ones(144)}, {N: 11}, {N: 10}, {N: 10, M: ones(120)}, {N: 10, M: ones(122)},
		{N: math.MaxInt, M: ones(1)}, {N: math.MinInt, M: ones(1)}, {N: 1 << 32, M: ones(1)}, {N: 1<<32 - 1}, {N: 1}, {N: 0, M: ones(2)}, {N: 0, M: ones(4)},
		zoneOf(1, 1, 1, none), zoneOf(1, 1, 1, none, 1, 1), // too few and too many elements
		zoneOf(0, 0), zoneOf(0, 3), zoneOf(0, none), zoneOf(0, -1), zoneOf(0, 2), // diagonals
		zoneOf(1, 0, 1, none, 1), zoneOf(1, 1, 1, none, 0), zoneOf(1, 1, 1, none, 3), zoneOf(1, 1, 1, none, none), zoneOf(1, 3, 1, none, 1),
		zoneOf(1, 1, 2, none, 1), zoneOf(1, 1, 3, none, 1), zoneOf(1, 1, none, none, 1), zoneOf(1, 1, none, 11, 1), // a clock may be below 0
		zoneOf(1, 1, -3, 3, 1), zoneOf(1, 1, -3, 4, 1), zoneOf(1, 1, -4, 5, 1), zoneOf(1, 1, -4, 4, 1), zoneOf(1, 1, 0, 1, 1), zoneOf(1, 1, 1, 0, 1), zoneOf(1, 1, 1, -1, 1), // empty
		zoneOf(2, 1, 1, 1, 5, 1, none, 5, 5, 1), zoneOf(2, 1, 1, 1, 5, 1, 6, 5, 5, 1), zoneOf(2, 1, 1, 1, 5, 1, 7, 5, 5, 1), // a difference with a path that is shorter
		zoneOf(2, 1, 1, 1, none, 1, 1, 5, 1, 1), zoneOf(2, 1, -3, 1, none, 1, 1, none, none, 1), zoneOf(2, 1, 0, 1, none, 1, 1, none, none, 1),
		zoneOf(2, 1, 1, 1, weak(most), 1, none, weak(most), weak(most), 1), zoneOf(2, 1, 1, 1, none, 1, weak(least), none, weak(least), 1),
	}
	for _, l := range invalidLimits() {
		all = append(all, zoneOf(0, l), zoneOf(1, 1, 1, l, 1), zoneOf(1, 1, l, none, 1), zoneOf(1, 1, 1, none, l))
	}
	return all
}

// invalidRatios returns ratios that are not valid.
func invalidRatios() []api.Ratio {
	return []api.Ratio{
		{}, r(1, 0), r(0, 2), r(2, 4), r(1, -2), r(-1, -1), r(0, -1),
		r(api.MaxRatio+1, 1), r(-api.MaxRatio-1, 1), r(1, api.MaxRatio+1), r(api.MaxRatio, api.MaxRatio),
		r(math.MinInt64, 1), r(1, math.MinInt64), r(math.MaxInt64, 1), r(1, math.MaxInt64), r(math.MinInt64, math.MinInt64),
	}
}

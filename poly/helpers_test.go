package poly

import (
	"math"
	"math/big"
	"math/rand/v2"
	"slices"
	"testing"

	"foliot/api"
)

const (
	top  = api.MaxCoef
	many = api.MaxLines
)

// most and less return the lines "a is at most b" and "a is less than b".
func most(b int64, a ...int64) api.Line { return api.Line{A: a, B: b} }
func less(b int64, a ...int64) api.Line { return api.Line{A: a, B: b, Strict: true} }

func list(l ...api.Line) []api.Line { return l }

// times returns a list of count times the same lines.
func times(count int, l ...api.Line) []api.Line { return slices.Repeat(l, count) }

func r(num, den int64) api.Ratio { return api.Ratio{Num: num, Den: den} }

// at returns a point of whole numbers.
func at(values ...int64) []api.Ratio {
	p := []api.Ratio{}
	for _, x := range values {
		p = append(p, r(x, 1))
	}
	return p
}

// opposite returns the opposite of a line.
func opposite(x api.Line) api.Line {
	y := api.Line{B: -x.B, Strict: !x.Strict}
	for _, a := range x.A {
		y.A = append(y.A, -a)
	}
	return y
}

// with returns a new list with more lines behind.
func with(l []api.Line, more ...api.Line) []api.Line { return slices.Concat(l, more) }

// steep returns count lines of one coordinate of which the tidy list has all:
// "k times it is at most 1", for k from 1 on.
func steep(count int) []api.Line {
	var l []api.Line
	for k := range count {
		l = append(l, most(1, int64(k+1)))
	}
	return l
}

// tooWide returns two lines of two coordinates whose sum is out of range.
func tooWide() []api.Line { return list(most(1, top, top), most(0, 2, -3)) }

func sameLine(x, y api.Line) bool {
	return x.B == y.B && x.Strict == y.Strict && slices.Equal(x.A, y.A)
}

func sameLists(a, b []api.Line) bool { return slices.EqualFunc(a, b, sameLine) }

func checkList(t *testing.T, got []api.Line, e api.Errno, want []api.Line, wantE api.Errno, what string, args ...any) {
	t.Helper()
	if e != wantE || !sameLists(got, want) {
		t.Errorf("%s%v: %v, %d; want %v, %d", what, args, got, e, want, wantE)
	}
}

func checkLists(t *testing.T, got [][]api.Line, e api.Errno, want [][]api.Line, wantE api.Errno, what string, args ...any) {
	t.Helper()
	if e != wantE || !slices.EqualFunc(got, want, sameLists) {
		t.Errorf("%s%v: %v, %d; want %v, %d", what, args, got, e, want, wantE)
	}
}

func checkBool(t *testing.T, got bool, e api.Errno, want bool, wantE api.Errno, what string, args ...any) {
	t.Helper()
	if got != want || e != wantE {
		t.Errorf("%s%v: %v, %d; want %v, %d", what, args, got, e, want, wantE)
	}
}

func checkPoint(t *testing.T, got []api.Ratio, e api.Errno, want []api.Ratio, wantE api.Errno, what string, args ...any) {
	t.Helper()
	if e != wantE || !slices.Equal(got, want) {
		t.Errorf("%s%v: %v, %d; want %v, %d", what, args, got, e, want, wantE)
	}
}

func checkLeast(t *testing.T, n int, l []api.Line, a []int64, want api.Ratio, wantAttained bool, wantE api.Errno) {
	t.Helper()
	low, attained, e := Least(n, l, a)
	if low != want || attained != wantAttained || e != wantE {
		t.Errorf("Least(%d, %v, %v): %v, %v, %d; want %v, %v, %d", n, l, a, low, attained, e, want, wantAttained, wantE)
	}
}

// given is a list with the dimension that it is given for.
type given struct {
	n int
	l []api.Line
}

// invalid returns lists, with the errors that all functions return for them.
func invalid() map[api.Errno][]given {
	wrong := []given{
		{-1, nil}, {api.MaxAxes + 1, nil}, {math.MaxInt, nil}, {math.MinInt, nil}, {1<<32 + 1, nil},
		{6, list(most(1, 1, 1, 1, 1, 1, 1))}, {-1, times(many+1, most(0))}, {6, times(many+1, most(0, 0, 0, 0, 0, 0, 0))},
		{0, list(most(0, 0))}, {1, list(most(0))}, {1, list(most(0, 0, 0))}, {2, list(most(0, 1))}, {5, list(most(0, 1, 1, 1, 1, 1, 1))},
		{2, list(most(0, 1, 1), most(0, 1))}, {1, times(many, most(0, 1, 1))},
	}
	for _, x := range []int64{top + 1, -top - 1, 1 << 32, math.MaxInt64, -math.MaxInt64, math.MinInt64} {
		wrong = append(wrong, given{1, list(most(x, 1))}, given{1, list(most(0, x))}, given{2, list(most(0, 0, 0), less(0, 0, x))}, given{0, list(less(x))})
	}
	return map[api.Errno][]given{
		api.ErrArg:  wrong,
		api.ErrLong: {{0, times(many+1, most(0))}, {1, times(many+1, most(0, 1))}, {5, times(many+1, api.Line{})}, {1, with(times(many, most(0, 1)), most(0, top+1))}},
	}
}

// number returns an exact number.
func number(x api.Ratio) *big.Rat { return big.NewRat(x.Num, x.Den) }

// exact returns the sum of the coefficients times the coordinates.
func exact(a []int64, p []api.Ratio) *big.Rat {
	sum := new(big.Rat)
	for k, x := range p {
		sum.Add(sum, new(big.Rat).Mul(new(big.Rat).SetInt64(a[k]), number(x)))
	}
	return sum
}

// meets tells whether a point meets all lines, without any limit of numbers.
func meets(l []api.Line, p []api.Ratio) bool {
	return !slices.ContainsFunc(l, func(x api.Line) bool {
		order := exact(x.A, p).Cmp(new(big.Rat).SetInt64(x.B))
		return order > 0 || order == 0 && x.Strict
	})
}

// randomLine returns a line with numbers up to size. Every second one is met by
// a point, often just so.
func randomLine(g *rand.Rand, size int64, p []int64) api.Line {
	any := func() int64 { return g.Int64N(2*size+1) - size }
	x := api.Line{A: make([]int64, len(p)), B: any(), Strict: g.IntN(3) == 0}
	value := int64(0)
	for k := range x.A {
		if g.IntN(3) > 0 {
			x.A[k] = any()
		}
		value += x.A[k] * p[k]
	}
	if g.IntN(2) == 0 && value <= size && value >= -size {
		x.B = min(size, value+g.Int64N(3))
	}
	return x
}

// randomList returns a list of lines with numbers up to size, some of which are
// like others, with other limits or multiplied.
func randomList(g *rand.Rand, n int, size int64, count int) []api.Line {
	p := make([]int64, n)
	for k := range p {
		p[k] = g.Int64N(7) - 3
	}
	var l []api.Line
	for range count {
		x := randomLine(g, size, p)
		if len(l) > 0 && g.IntN(5) == 0 {
			x = like(g, size, l[g.IntN(len(l))])
		}
		l = append(l, x)
	}
	return l
}

// like returns a line that is like another one.
func like(g *rand.Rand, size int64, x api.Line) api.Line {
	factor := g.Int64N(4) - 1
	y := api.Line{B: factor * (x.B + g.Int64N(3) - 1), Strict: g.IntN(2) == 0}
	for _, a := range x.A {
		y.A = append(y.A, factor*a)
	}
	if !fit(y.A...) || !fit(y.B) {
		return x
	}
	return y
}

// eachList calls f with count lists of each dimension, size and length; they
// are the same in each run.
func eachList(seed uint64, count int, f func(g *rand.Rand, n int, l []api.Line)) {
	g := rand.New(rand.NewPCG(7, seed))
	for n := range api.MaxAxes + 1 {
		for _, size := range []int64{1, 2, 5, 1000, top} {
			for _, length := range []int{0, 1, 2, 3, 4, 5, 6, 8, 12} {
				for range count {
					f(g, n, randomList(g, n, size, length))
				}
			}
		}
	}
}

// randomPoint returns a point with small coordinates.
func randomPoint(g *rand.Rand, n int) []api.Ratio {
	p := []api.Ratio{}
	for range n {
		x := big.NewRat(g.Int64N(13)-6, []int64{1, 1, 1, 2, 3, 4}[g.IntN(6)])
		p = append(p, r(x.Num().Int64(), x.Denom().Int64()))
	}
	return p
}

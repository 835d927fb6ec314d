package poly

import (
	"math/big"
	"math/rand/v2"
	"slices"
	"testing"

	"foliot/api"
	"foliot/ratio"
)

// This file says what the functions return in the words of the document, one
// step after the other, with numbers of any size.

// inequality is a line with numbers of any size.
type inequality struct {
	a      []*big.Int
	b      *big.Int
	strict bool
}

func inequalities(l []api.Line) []inequality {
	var made []inequality
	for _, x := range l {
		y := inequality{b: big.NewInt(x.B), strict: x.Strict}
		for _, a := range x.A {
			y.a = append(y.a, big.NewInt(a))
		}
		made = append(made, y)
	}
	return made
}

func listOf(l []inequality) []api.Line {
	var made []api.Line
	for _, x := range l {
		y := api.Line{B: x.b.Int64(), Strict: x.strict}
		for _, a := range x.a {
			y.A = append(y.A, a.Int64())
		}
		made = append(made, y)
	}
	return made
}

func (x inequality) numbers() []*big.Int { return append(slices.Clone(x.a), x.b) }

func (x inequality) isZero() bool {
	return !slices.ContainsFunc(x.a, func(a *big.Int) bool { return a.Sign() != 0 })
}

func order(x, y inequality) int {
	return slices.CompareFunc(x.a, y.a, func(a, b *big.Int) int { return a.Cmp(b) })
}

func inLowestTerms(x inequality) inequality {
	divisor := new(big.Int)
	for _, a := range x.numbers() {
		divisor.GCD(nil, nil, divisor, new(big.Int).Abs(a))
	}
	if divisor.Sign() == 0 {
		return x
	}
	y := inequality{b: new(big.Int).Quo(x.b, divisor), strict: x.strict}
	for _, a := range x.a {
		y.a = append(y.a, new(big.Int).Quo(a, divisor))
	}
	return y
}

func tidyByWords(n int, l []inequality) []inequality {
	var made []inequality
	for _, x := range l {
		x = inLowestTerms(x)
		if x.isZero() && (x.b.Sign() < 0 || x.b.Sign() == 0 && x.strict) {
			return inequalities(list(less(0, make([]int64, n)...)))
		}
		if x.isZero() {
			continue
		}
		place := slices.IndexFunc(made, func(y inequality) bool { return order(x, y) == 0 })
		switch {
		case place < 0:
			made = append(made, x)
		case x.b.Cmp(made[place].b) < 0 || x.b.Cmp(made[place].b) == 0 && x.strict:
			made[place] = x
		}
	}
	slices.SortFunc(made, order)
	return made
}

func sumByWords(x, y inequality, i int) inequality {
	divisor := new(big.Int).GCD(nil, nil, new(big.Int).Abs(y.a[i]), x.a[i])
	a, b := new(big.Int).Quo(new(big.Int).Neg(y.a[i]), divisor), new(big.Int).Quo(x.a[i], divisor)
	add := func(u, v *big.Int) *big.Int {
		return new(big.Int).Add(new(big.Int).Mul(a, u), new(big.Int).Mul(b, v))
	}
	s := inequality{b: add(x.b, y.b), strict: x.strict || y.strict}
	for k := range x.a {
		s.a = append(s.a, add(x.a[k], y.a[k]))
	}
	return s
}

func withoutByWords(n int, l []inequality, i int) ([]inequality, api.Errno) {
	var made []inequality
	for _, x := range l {
		if x.a[i].Sign() == 0 {
			made = append(made, x)
		}
	}
	for _, x := range l {
		for _, y := range l {
			if x.a[i].Sign() > 0 && y.a[i].Sign() < 0 {
				made = append(made, sumByWords(x, y, i))
			}
		}
	}
	if len(made) > many {
		return nil, api.ErrLong
	}
	for _, x := range made {
		for _, a := range inLowestTerms(x).numbers() {
			if a.CmpAbs(big.NewInt(top)) > 0 {
				return nil, api.ErrRange
			}
		}
	}
	made = tidyByWords(n, made)
	for k := range made {
		made[k].a = slices.Delete(slices.Clone(made[k].a), i, i+1)
	}
	return made, api.OK
}

// downTo leaves out the coordinates from the given one down to another one, of the tidy list.
func downTo(n int, l []inequality, from, to int) ([]inequality, api.Errno) {
	l = tidyByWords(n, l)
	for i := from; i >= to; i-- {
		left, e := withoutByWords(n, l, i)
		if e != api.OK {
			return nil, e
		}
		l, n = left, n-1
	}
	return l, api.OK
}

func emptyByWords(n int, l []api.Line) (bool, api.Errno) {
	left, e := downTo(n, inequalities(l), n-1, 0)
	return len(left) > 0, e
}

func impliesByWords(n int, l []api.Line, x api.Line) (bool, api.Errno) {
	return emptyByWords(n, with(l, opposite(x)))
}

func includesByWords(n int, a, b []api.Line) (bool, api.Errno) {
	for _, x := range a {
		if is, e := impliesByWords(n, b, x); !is || e != api.OK {
			return false, e
		}
	}
	return true, api.OK
}

// reckoning makes ratios one after the other, up to the first error.
type reckoning struct{ e api.Errno }

func (c *reckoning) ratio(x *big.Rat) api.Ratio {
	if x.Num().CmpAbs(big.NewInt(api.MaxRatio)) > 0 || x.Denom().Cmp(big.NewInt(api.MaxRatio)) > 0 {
		c.e = api.ErrRange
		return r(0, 1)
	}
	return r(x.Num().Int64(), x.Denom().Int64())
}

func (c *reckoning) add(x, y api.Ratio) api.Ratio {
	return c.ratio(new(big.Rat).Add(number(x), number(y)))
}

func (c *reckoning) multiply(x, y api.Ratio) api.Ratio {
	return c.ratio(new(big.Rat).Mul(number(x), number(y)))
}

func (c *reckoning) sum(x api.Line, p []api.Ratio) api.Ratio {
	sum := r(0, 1)
	for k, value := range p {
		sum = c.add(sum, c.multiply(r(x.A[k], 1), value))
	}
	return sum
}

func hasByWords(l []api.Line, p []api.Ratio) (bool, api.Errno) {
	var c reckoning
	for _, x := range l {
		c.sum(x, p)
	}
	return c.e == api.OK && meets(l, p), c.e
}

func pointByWords(n int, l []api.Line) ([]api.Ratio, api.Errno) {
	empty, e := emptyByWords(n, l)
	if e != api.OK {
		return nil, e
	}
	if empty {
		return nil, api.ErrNone
	}
	var p []api.Ratio
	for i := range n {
		left, _ := downTo(n, inequalities(l), n-1, i+1)
		x, e := coordinateByWords(listOf(left), i, p)
		if e != api.OK {
			return nil, e
		}
		p = append(p, x)
	}
	return p, api.OK
}

func coordinateByWords(l []api.Line, i int, p []api.Ratio) (api.Ratio, api.Errno) {
	var c reckoning
	var lower, upper []api.Ratio
	lowerOpen, upperOpen := false, false
	for _, x := range l {
		if x.A[i] == 0 {
			continue
		}
		negative := c.sum(x, p)
		negative.Num *= -1
		bound := c.ratio(new(big.Rat).Quo(number(c.add(r(x.B, 1), negative)), new(big.Rat).SetInt64(x.A[i])))
		if x.A[i] < 0 {
			lower, lowerOpen = tighter(lower, lowerOpen, bound, x.Strict, 1)
		} else {
			upper, upperOpen = tighter(upper, upperOpen, bound, x.Strict, -1)
		}
	}
	if c.e != api.OK {
		return api.Ratio{}, c.e
	}
	switch {
	case len(lower) > 0 && !lowerOpen:
		return lower[0], api.OK
	case len(lower) > 0 && len(upper) > 0:
		return ratio.Middle(lower[0], upper[0])
	case len(lower) > 0:
		return c.add(lower[0], r(1, 1)), c.e
	case len(upper) > 0 && upperOpen:
		return c.add(upper[0], r(-1, 1)), c.e
	case len(upper) > 0:
		return upper[0], api.OK
	}
	return r(0, 1), api.OK
}

// tighter returns the end on one side that leaves less: the one so far, if there is one, or another one.
func tighter(end []api.Ratio, open bool, bound api.Ratio, strict bool, side int) ([]api.Ratio, bool) {
	if len(end) == 0 {
		return []api.Ratio{bound}, strict
	}
	switch side * number(bound).Cmp(number(end[0])) {
	case 1:
		return []api.Ratio{bound}, strict
	case 0:
		return end, open || strict
	}
	return end, open
}

func minusByWords(n int, a, b []api.Line) ([][]api.Line, api.Errno) {
	var made [][]api.Line
	rest := a
	for _, x := range b {
		both := with(rest, opposite(x))
		if len(both) > many {
			return nil, api.ErrLong
		}
		empty, e := emptyByWords(n, both)
		if e != api.OK {
			return nil, e
		}
		if !empty {
			made = append(made, listOf(tidyByWords(n, inequalities(both))))
		}
		rest = with(rest, x)
	}
	return made, api.OK
}

func leastByWords(n int, l []api.Line, a []int64) (api.Ratio, bool, api.Errno) {
	var longer []api.Line
	for _, x := range l {
		longer = append(longer, api.Line{A: append(slices.Clone(x.A), 0), B: x.B, Strict: x.Strict})
	}
	says := most(0, append(slices.Clone(a), -1)...)
	left, e := downTo(n+1, inequalities(with(longer, says, opposite(less(0, says.A...)))), n-1, 0)
	if e != api.OK {
		return api.Ratio{}, false, e
	}
	var lower, upper []api.Ratio
	lowerOpen, upperOpen := false, false
	for _, x := range listOf(left) {
		if x.A[0] == 0 {
			return api.Ratio{}, false, api.ErrNone
		}
		bound, _ := ratio.Make(x.B, x.A[0])
		if x.A[0] < 0 {
			lower, lowerOpen = tighter(lower, lowerOpen, bound, x.Strict, 1)
		} else {
			upper, upperOpen = tighter(upper, upperOpen, bound, x.Strict, -1)
		}
	}
	if len(lower) == 0 {
		return api.Ratio{}, false, api.ErrNone
	}
	if len(upper) > 0 {
		order := number(lower[0]).Cmp(number(upper[0]))
		if order > 0 || order == 0 && (lowerOpen || upperOpen) {
			return api.Ratio{}, false, api.ErrNone
		}
	}
	return lower[0], !lowerOpen, api.OK
}

// tally counts errors, so that a test can tell that it has met all of them.
type tally map[api.Errno]int

func (c tally) check(t *testing.T, least int, errors ...api.Errno) {
	t.Helper()
	for _, e := range errors {
		if c[e] < least {
			t.Errorf("the error %d has been met %d times", e, c[e])
		}
	}
}

// P7.2
func TestWithoutByWords(t *testing.T) {
	met := tally{}
	eachList(1, 30, func(g *rand.Rand, n int, l []api.Line) {
		for i := range n {
			left, want := withoutByWords(n, inequalities(l), i)
			got, e := Without(n, l, i)
			checkList(t, got, e, listOf(left), want, "Without", n, l, i)
			met[e]++
		}
	})
	met.check(t, 1000, api.OK, api.ErrRange)
}

// P7.3
func TestEmptyByWords(t *testing.T) {
	met, answers := tally{}, map[bool]int{}
	eachList(2, 30, func(g *rand.Rand, n int, l []api.Line) {
		want, wantE := emptyByWords(n, l)
		got, e := Empty(n, l)
		checkBool(t, got, e, want, wantE, "Empty", n, l)
		met[e]++
		answers[got]++
	})
	met.check(t, 500, api.OK, api.ErrRange)
	if answers[true] < 500 || answers[false] < 500 {
		t.Errorf("%v", answers)
	}
}

// P7.4
func TestImpliesByWords(t *testing.T) {
	met, answers := tally{}, map[bool]int{}
	eachList(3, 20, func(g *rand.Rand, n int, l []api.Line) {
		more := randomList(g, n, 3, 2)
		if len(l) > 0 {
			more = append(more, like(g, 3, l[g.IntN(len(l))]))
		}
		for _, x := range more {
			want, wantE := impliesByWords(n, l, x)
			got, e := Implies(n, l, x)
			checkBool(t, got, e, want, wantE, "Implies", n, l, x)
			met[e]++
			answers[got]++
		}
	})
	met.check(t, 500, api.OK, api.ErrRange)
	if answers[true] < 500 || answers[false] < 500 {
		t.Errorf("%v", answers)
	}
}

// P7.4
func TestIncludesByWords(t *testing.T) {
	met, answers := tally{}, map[bool]int{}
	eachList(4, 20, func(g *rand.Rand, n int, l []api.Line) {
		some := l[:g.IntN(len(l)+1)]
		for _, c := range [][2][]api.Line{{l, some}, {some, l}, {randomList(g, n, 3, 2), l}} {
			want, wantE := includesByWords(n, c[0], c[1])
			got, e := Includes(n, c[0], c[1])
			checkBool(t, got, e, want, wantE, "Includes", n, c[0], c[1])
			met[e]++
			answers[got]++
		}
	})
	met.check(t, 500, api.OK, api.ErrRange)
	if answers[true] < 500 || answers[false] < 500 {
		t.Errorf("%v", answers)
	}
}

// P7.5
func TestHasByWords(t *testing.T) {
	met, answers := tally{}, map[bool]int{}
	eachList(5, 10, func(g *rand.Rand, n int, l []api.Line) {
		for range 4 {
			p := randomPoint(g, n)
			want, wantE := hasByWords(l, p)
			got, e := Has(n, l, p)
			checkBool(t, got, e, want, wantE, "Has", n, l, p)
			met[e]++
			answers[got]++
		}
	})
	met.check(t, 500, api.OK, api.ErrRange)
	if answers[true] < 500 || answers[false] < 500 {
		t.Errorf("%v", answers)
	}
}

// P7.6
func TestPointByWords(t *testing.T) {
	met := tally{}
	eachList(6, 30, func(g *rand.Rand, n int, l []api.Line) {
		want, wantE := pointByWords(n, l)
		got, e := Point(n, l)
		checkPoint(t, got, e, want, wantE, "Point", n, l)
		met[e]++
	})
	met.check(t, 500, api.OK, api.ErrNone, api.ErrRange)
}

// P7.7
func TestMinusByWords(t *testing.T) {
	met, lengths := tally{}, map[int]int{}
	eachList(7, 10, func(g *rand.Rand, n int, l []api.Line) {
		some := g.IntN(len(l) + 1)
		for _, c := range [][2][]api.Line{{l[:some], l[some:]}, {randomList(g, n, 3, 2), l}, {l, randomList(g, n, 3, 3)}} {
			want, wantE := minusByWords(n, c[0], c[1])
			got, e := Minus(n, c[0], c[1])
			checkLists(t, got, e, want, wantE, "Minus", n, c[0], c[1])
			met[e]++
			lengths[len(got)]++
		}
	})
	met.check(t, 500, api.OK, api.ErrRange)
	for length := range 6 {
		if lengths[length] < 100 {
			t.Errorf("%v", lengths)
		}
	}
}

// P7.8
func TestLeastByWords(t *testing.T) {
	met, answers := tally{}, map[bool]int{}
	eachList(8, 20, func(g *rand.Rand, n int, l []api.Line) {
		a := randomLine(g, []int64{2, 2, top}[g.IntN(3)], make([]int64, n)).A
		if len(l) > 0 && g.IntN(2) == 0 {
			a = opposite(l[g.IntN(len(l))]).A // which is bounded from below
		}
		want, wantAttained, wantE := leastByWords(n, l, a)
		checkLeast(t, n, l, a, want, wantAttained, wantE)
		met[wantE]++
		answers[wantAttained]++
	})
	met.check(t, 500, api.OK, api.ErrNone, api.ErrRange)
	if answers[true] < 300 {
		t.Errorf("%v", answers)
	}
}

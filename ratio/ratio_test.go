package ratio

import (
	"math"
	"math/big"
	"math/rand/v2"
	"testing"

	"foliot/api"
)

const big31 = api.MaxRatio

type binary = func(a, b api.Ratio) (api.Ratio, api.Errno)

type operation struct {
	f     binary
	exact func(z, a, b *big.Rat) *big.Rat
}

func r(num, den int64) api.Ratio { return api.Ratio{Num: num, Den: den} }

// invalid returns ratios that break one rule of the definition each, and some that break several.
func invalid() []api.Ratio {
	return []api.Ratio{
		{}, r(1, 0), r(0, 2), r(0, -1), r(2, 4), r(-3, 9), r(1, -2), r(-1, -1),
		r(big31+1, 1), r(-big31-1, 1), r(1, big31+1), r(big31, big31),
		r(math.MinInt64, 1), r(1, math.MinInt64), r(math.MinInt64, math.MinInt64), r(math.MaxInt64, 1), r(1, math.MaxInt64),
	}
}

// edges returns valid ratios at the limits and around 0.
func edges() []api.Ratio {
	return []api.Ratio{
		r(0, 1), r(1, 1), r(-1, 1), r(1, 2), r(-1, 2), r(1, 3), r(-7, 2), r(22, 7),
		r(big31, 1), r(-big31, 1), r(1, big31), r(-1, big31), r(big31, big31-1), r(-big31, big31-1),
		r(big31-1, big31), r(big31, 2), r(2, big31), r(1<<30, 1), r(1, 1<<30), r(-1<<30, big31),
	}
}

// small returns all valid ratios whose parts are at most n in absolute value.
func small(n int64) []api.Ratio {
	var all []api.Ratio
	for den := int64(1); den <= n; den++ {
		for num := -n; num <= n; num++ {
			if new(big.Int).GCD(nil, nil, big.NewInt(num), big.NewInt(den)).Int64() == 1 {
				all = append(all, r(num, den))
			}
		}
	}
	return all
}

// spread returns valid ratios of all magnitudes; they are the same in each run.
func spread(n int) []api.Ratio {
	g := rand.New(rand.NewPCG(1, 2))
	part := func() int64 { return 1 + g.Int64N(big31)>>g.IntN(31) }
	var all []api.Ratio
	for len(all) < n {
		num, den := part(), part()
		if g.IntN(2) == 0 {
			num = -num
		}
		if a, e := expected(big.NewRat(num, den)); e == api.OK {
			all = append(all, a)
		}
	}
	return all
}

// number returns the number that a valid ratio stands for.
func number(a api.Ratio) *big.Rat { return big.NewRat(a.Num, a.Den) }

// expected returns the ratio of a number, or ErrRange.
func expected(x *big.Rat) (api.Ratio, api.Errno) {
	most := big.NewInt(api.MaxRatio)
	if x.Num().CmpAbs(most) > 0 || x.Denom().CmpAbs(most) > 0 {
		return api.Ratio{}, api.ErrRange
	}
	return r(x.Num().Int64(), x.Denom().Int64()), api.OK
}

// operations returns the functions of P1.2 with two arguments, each with what it computes.
func operations() map[string]operation {
	return map[string]operation{
		"Add": {Add, (*big.Rat).Add},
		"Sub": {Sub, (*big.Rat).Sub},
		"Mul": {Mul, (*big.Rat).Mul},
		"Div": {Div, (*big.Rat).Quo},
	}
}

func checkRatio(t *testing.T, got api.Ratio, e api.Errno, want api.Ratio, wantE api.Errno, what string, args ...any) {
	t.Helper()
	if got != want || e != wantE {
		t.Errorf("%s%v: %v, %d; want %v, %d", what, args, got, e, want, wantE)
	}
}

// P1.1
func TestValid(t *testing.T) {
	for _, a := range invalid() {
		if Valid(a) {
			t.Errorf("%v is valid", a)
		}
	}
	for _, a := range append(edges(), spread(200)...) {
		if !Valid(a) {
			t.Errorf("%v is not valid", a)
		}
	}
	for den := int64(-3); den <= 12; den++ {
		for num := int64(-12); num <= 12; num++ {
			want := den >= 1 && number(r(num, den)).Denom().Int64() == den
			if Valid(r(num, den)) != want {
				t.Errorf("%d/%d: valid is not %v", num, den, want)
			}
		}
	}
}

// P1.1
func TestOf(t *testing.T) {
	for _, n := range []int64{0, 1, -1, 7, -12, big31, -big31} {
		got, e := Of(n)
		checkRatio(t, got, e, r(n, 1), api.OK, "Of", n)
	}
	for _, n := range []int64{big31 + 1, -big31 - 1, 1 << 40, math.MaxInt64, math.MinInt64} {
		got, e := Of(n)
		checkRatio(t, got, e, api.Ratio{}, api.ErrRange, "Of", n)
	}
}

// P1.1
func TestMake(t *testing.T) {
	for _, c := range []struct {
		num, den int64
		want     api.Ratio
		e        api.Errno
	}{
		{6, -4, r(-3, 2), api.OK},
		{0, 7, r(0, 1), api.OK},
		{0, math.MinInt64, r(0, 1), api.OK},
		{1, 0, api.Ratio{}, api.ErrArg},
		{0, 0, api.Ratio{}, api.ErrArg},
		{math.MinInt64, 0, api.Ratio{}, api.ErrArg},
		{math.MinInt64, math.MinInt64, r(1, 1), api.OK},
		{math.MinInt64, 1 << 40, r(-1<<23, 1), api.OK},
		{math.MinInt64, -1 << 40, r(1<<23, 1), api.OK},
		{1 << 40, math.MinInt64, r(-1, 1<<23), api.OK},
		{-1 << 40, math.MinInt64, r(1, 1<<23), api.OK},
		{math.MinInt64, 1 << 33, r(-1<<30, 1), api.OK},
		{math.MinInt64, 1 << 32, api.Ratio{}, api.ErrRange},
		{math.MinInt64, -1 << 32, api.Ratio{}, api.ErrRange},
		{math.MinInt64, math.MaxInt64, api.Ratio{}, api.ErrRange},
		{math.MaxInt64, math.MaxInt64, r(1, 1), api.OK},
		{math.MaxInt64, -math.MaxInt64, r(-1, 1), api.OK},
		{1 << 31, 1, api.Ratio{}, api.ErrRange},
		{1, 1 << 31, api.Ratio{}, api.ErrRange},
		{1, -1 << 31, api.Ratio{}, api.ErrRange},
		{-1 << 31, -1, api.Ratio{}, api.ErrRange},
		{big31, 1, r(big31, 1), api.OK},
		{-2 * big31, 2, r(-big31, 1), api.OK},
		{3, 3 * big31, r(1, big31), api.OK},
	} {
		got, e := Make(c.num, c.den)
		checkRatio(t, got, e, c.want, c.e, "Make", c.num, c.den)
	}
}

// P1.1
func TestMakeIsExact(t *testing.T) {
	g := rand.New(rand.NewPCG(3, 4))
	for range 20000 {
		num, den := int64(g.Uint64())>>g.IntN(63), int64(g.Uint64())>>g.IntN(63)
		if factor := int64(g.IntN(1 << 20)); g.IntN(2) == 0 {
			num, den = (num>>32)*factor, (den>>32)*factor
		}
		if den == 0 {
			continue
		}
		got, e := Make(num, den)
		want, wantE := expected(big.NewRat(num, den))
		checkRatio(t, got, e, want, wantE, "Make", num, den)
	}
}

// P1.2
func TestOperations(t *testing.T) {
	for _, c := range []struct {
		f    binary
		name string
		a, b api.Ratio
		want api.Ratio
		e    api.Errno
	}{
		{Add, "Add", r(1, 2), r(1, 3), r(5, 6), api.OK},
		{Add, "Add", r(big31, 1), r(1, 1), api.Ratio{}, api.ErrRange},
		{Add, "Add", r(big31, 1), r(-1, 1), r(big31-1, 1), api.OK},
		{Add, "Add", r(1, big31), r(1, 2), api.Ratio{}, api.ErrRange},
		{Sub, "Sub", r(1, 2), r(1, 2), r(0, 1), api.OK},
		{Sub, "Sub", r(1, 3), r(1, 2), r(-1, 6), api.OK},
		{Sub, "Sub", r(-big31, 1), r(1, 1), api.Ratio{}, api.ErrRange},
		{Sub, "Sub", r(-big31, 1), r(big31, big31-1), api.Ratio{}, api.ErrRange},
		{Mul, "Mul", r(2, 3), r(-3, 2), r(-1, 1), api.OK},
		{Mul, "Mul", r(0, 1), r(-3, 2), r(0, 1), api.OK},
		{Mul, "Mul", r(big31, 1), r(2, 1), api.Ratio{}, api.ErrRange},
		{Mul, "Mul", r(-big31, 2), r(2, big31), r(-1, 1), api.OK},
		{Div, "Div", r(1, 2), r(-2, 1), r(-1, 4), api.OK},
		{Div, "Div", r(-1, 2), r(-2, 3), r(3, 4), api.OK},
		{Div, "Div", r(0, 1), r(-2, 3), r(0, 1), api.OK},
		{Div, "Div", r(1, 1), r(-big31, 1), r(-1, big31), api.OK},
		{Div, "Div", r(1, 2), r(big31, 1), api.Ratio{}, api.ErrRange},
		{Div, "Div", r(1, 2), r(0, 1), api.Ratio{}, api.ErrArg},
		{Div, "Div", r(0, 1), r(0, 1), api.Ratio{}, api.ErrArg},
	} {
		got, e := c.f(c.a, c.b)
		checkRatio(t, got, e, c.want, c.e, c.name, c.a, c.b)
	}
}

// P1.2
func TestOperationsAreExact(t *testing.T) {
	all := append(append(edges(), small(4)...), spread(150)...)
	for name, o := range operations() {
		for _, a := range all {
			for _, b := range all {
				want, wantE := api.Ratio{}, api.ErrArg
				if name != "Div" || b.Num != 0 {
					want, wantE = expected(o.exact(new(big.Rat), number(a), number(b)))
				}
				got, e := o.f(a, b)
				checkRatio(t, got, e, want, wantE, name, a, b)
			}
		}
	}
}

// P1.2
func TestNeg(t *testing.T) {
	for _, a := range append(append(edges(), small(4)...), spread(100)...) {
		got, e := Neg(a)
		checkRatio(t, got, e, r(-a.Num, a.Den), api.OK, "Neg", a)
	}
}

// P1.2, P1.4: what is not valid is told before anything else.
func TestInvalidPairs(t *testing.T) {
	fs := map[string]binary{"Add": Add, "Sub": Sub, "Mul": Mul, "Div": Div, "Middle": Middle}
	for name, f := range fs {
		for _, a := range invalid() {
			for _, b := range append(edges(), invalid()...) {
				got, e := f(a, b)
				checkRatio(t, got, e, api.Ratio{}, api.ErrArg, name, a, b)
				got, e = f(b, a)
				checkRatio(t, got, e, api.Ratio{}, api.ErrArg, name, b, a)
			}
		}
	}
}

// P1.2, P1.3, P1.5
func TestInvalidAlone(t *testing.T) {
	for _, a := range invalid() {
		got, e := Neg(a)
		checkRatio(t, got, e, api.Ratio{}, api.ErrArg, "Neg", a)
		if n, e := Floor(a); n != 0 || e != api.ErrArg {
			t.Errorf("Floor(%v): %d, %d", a, n, e)
		}
		if n, e := Ceil(a); n != 0 || e != api.ErrArg {
			t.Errorf("Ceil(%v): %d, %d", a, n, e)
		}
		if s, e := Text(a); s != "" || e != api.ErrArg {
			t.Errorf("Text(%v): %q, %d", a, s, e)
		}
		for _, b := range append(edges(), invalid()...) {
			if n, e := Cmp(a, b); n != 0 || e != api.ErrArg {
				t.Errorf("Cmp(%v, %v): %d, %d", a, b, n, e)
			}
			if n, e := Cmp(b, a); n != 0 || e != api.ErrArg {
				t.Errorf("Cmp(%v, %v): %d, %d", b, a, n, e)
			}
		}
	}
}

// P1.3
func TestCmp(t *testing.T) {
	all := append(append(edges(), small(5)...), spread(200)...)
	for _, a := range all {
		for _, b := range all {
			if n, e := Cmp(a, b); n != number(a).Cmp(number(b)) || e != api.OK {
				t.Errorf("Cmp(%v, %v): %d, %d", a, b, n, e)
			}
		}
	}
	// The difference of these is far too small for a ratio.
	if n, e := Cmp(r(big31-2, big31-1), r(big31-1, big31)); n != -1 || e != api.OK {
		t.Errorf("Cmp of neighbours: %d, %d", n, e)
	}
}

// P1.3
func TestFloorAndCeil(t *testing.T) {
	for _, c := range []struct {
		a         api.Ratio
		low, high int64
	}{
		{r(-7, 2), -4, -3}, {r(7, 2), 3, 4}, {r(3, 1), 3, 3}, {r(-3, 1), -3, -3}, {r(0, 1), 0, 0},
		{r(1, 3), 0, 1}, {r(-1, 3), -1, 0}, {r(1, big31), 0, 1}, {r(-1, big31), -1, 0},
		{r(big31, 1), big31, big31}, {r(-big31, 1), -big31, -big31},
		{r(big31, 2), 1<<30 - 1, 1 << 30}, {r(-big31, 2), -1 << 30, -1<<30 + 1},
	} {
		low, e := Floor(c.a)
		high, f := Ceil(c.a)
		if low != c.low || high != c.high || e != api.OK || f != api.OK {
			t.Errorf("%v: Floor %d, %d; Ceil %d, %d", c.a, low, e, high, f)
		}
	}
	for _, a := range append(small(9), spread(500)...) {
		low, _ := Floor(a)
		high, _ := Ceil(a)
		if low*a.Den > a.Num || (low+1)*a.Den <= a.Num {
			t.Errorf("Floor(%v): %d", a, low)
		}
		if high*a.Den < a.Num || (high-1)*a.Den >= a.Num {
			t.Errorf("Ceil(%v): %d", a, high)
		}
	}
}

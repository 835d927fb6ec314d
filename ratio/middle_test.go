package ratio

import (
	"math/big"
	"math/rand/v2"
	"testing"

	"foliot/api"
)

// plainMiddle finds the simplest number between a and b by trying the denominators up to most.
func plainMiddle(a, b *big.Rat, most int64) (*big.Rat, bool) {
	for den := int64(1); den <= most; den++ {
		d := big.NewInt(den)
		num := new(big.Int).Mul(a.Num(), d)
		num.Div(num, a.Denom()) // rounded down, as the denominator is positive
		num.Add(num, big.NewInt(1))
		if x := new(big.Rat).SetFrac(num, d); x.Cmp(b) < 0 {
			return x, true
		}
	}
	return nil, false
}

// P1.4
func TestMiddle(t *testing.T) {
	for _, c := range []struct {
		a, b, want api.Ratio
		e          api.Errno
	}{
		{r(0, 1), r(1, 1), r(1, 2), api.OK},
		{r(0, 1), r(5, 1), r(1, 1), api.OK},
		{r(1, 3), r(1, 2), r(2, 5), api.OK},
		{r(-1, 2), r(-1, 3), r(-2, 5), api.OK},
		{r(-1, 2), r(1, 2), r(0, 1), api.OK},
		{r(-5, 2), r(1, 2), r(-2, 1), api.OK},
		{r(-3, 1), r(-2, 1), r(-5, 2), api.OK},
		{r(-3, 1), r(-1, 1), r(-2, 1), api.OK},
		{r(-1, 1), r(0, 1), r(-1, 2), api.OK},
		{r(3, 1), r(22, 7), r(25, 8), api.OK},
		{r(-7, 2), r(-10, 3), r(-17, 5), api.OK},
		{r(0, 1), r(1, big31-1), r(1, big31), api.OK},
		{r(-1, big31-1), r(0, 1), r(-1, big31), api.OK},
		{r(-big31, 1), r(big31, 1), r(-big31+1, 1), api.OK},
		{r(big31-2, 1), r(big31, 1), r(big31-1, 1), api.OK},
		{r(1<<30-1, 1), r(1<<30, 1), r(big31, 2), api.OK},
		{r(-1<<30, 1), r(-1<<30+1, 1), r(-big31, 2), api.OK},
		{r(1, 1<<30), r(1, 1<<30-1), r(2, big31), api.OK},
	} {
		got, e := Middle(c.a, c.b)
		checkRatio(t, got, e, c.want, c.e, "Middle", c.a, c.b)
	}
}

// P1.4
func TestMiddleOutOfRange(t *testing.T) {
	for _, c := range [][2]api.Ratio{
		{r(0, 1), r(1, big31)},
		{r(-1, big31), r(0, 1)},
		{r(1, big31), r(1, big31-1)},
		{r(big31-1, 1), r(big31, 1)},
		{r(-big31, 1), r(-big31+1, 1)},
		{r(1<<30, 1), r(1<<30+1, 1)},
		{r(big31-1, big31), r(1, 1)},
		{r(big31-2, big31-1), r(big31-1, big31)},
		{r(1, 1), r(big31, big31-1)},
	} {
		got, e := Middle(c[0], c[1])
		checkRatio(t, got, e, api.Ratio{}, api.ErrRange, "Middle", c[0], c[1])
	}
}

// P1.4: equal and reversed arguments.
func TestMiddleOfNothing(t *testing.T) {
	all := append(append(edges(), small(4)...), spread(60)...)
	for _, a := range all {
		for _, b := range all {
			if number(a).Cmp(number(b)) < 0 {
				continue
			}
			got, e := Middle(a, b)
			checkRatio(t, got, e, api.Ratio{}, api.ErrArg, "Middle", a, b)
		}
	}
}

// P1.4, P1.7: what Middle returns is what trying out finds.
func TestMiddleIsSimplest(t *testing.T) {
	all := small(13)
	for _, a := range all {
		for _, b := range all {
			if number(a).Cmp(number(b)) >= 0 {
				continue
			}
			x, _ := plainMiddle(number(a), number(b), 26)
			want, wantE := expected(x)
			got, e := Middle(a, b)
			checkRatio(t, got, e, want, wantE, "Middle", a, b)
		}
	}
}

// P1.4, P1.7: the ends have large parts and lie close to a number with a small denominator.
func TestMiddleOfCloseEnds(t *testing.T) {
	g := rand.New(rand.NewPCG(5, 6))
	end := func(x *big.Rat, apart int64) api.Ratio {
		a, e := expected(new(big.Rat).Add(x, big.NewRat(apart, 1+g.Int64N(1<<20))))
		if e != api.OK {
			return r(0, 0)
		}
		return a
	}
	tried := 0
	for tried < 3000 {
		x := big.NewRat(g.Int64N(2000)-1000, 1+g.Int64N(300))
		a, b := end(x, -g.Int64N(3)), end(x, 1+g.Int64N(3))
		if a.Den == 0 || b.Den == 0 {
			continue
		}
		y, found := plainMiddle(number(a), number(b), 3000)
		if !found {
			continue
		}
		tried++
		want, wantE := expected(y)
		got, e := Middle(a, b)
		checkRatio(t, got, e, want, wantE, "Middle", a, b)
	}
}

// P1.7: what is found between any ends lies between them, and ErrRange is told
// only if not even the mediant, which lies between, is a ratio.
func TestMiddleLiesBetween(t *testing.T) {
	all := append(edges(), spread(400)...)
	for _, a := range all {
		for _, b := range all {
			x, y := number(a), number(b)
			if x.Cmp(y) >= 0 {
				continue
			}
			m, e := Middle(a, b)
			if e == api.OK && (!Valid(m) || x.Cmp(number(m)) >= 0 || number(m).Cmp(y) >= 0) {
				t.Errorf("Middle(%v, %v): %v", a, b, m)
			}
			if _, f := expected(big.NewRat(a.Num+b.Num, a.Den+b.Den)); e != api.OK && (e != api.ErrRange || f == api.OK) {
				t.Errorf("Middle(%v, %v): %d", a, b, e)
			}
		}
	}
}

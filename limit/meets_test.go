package limit

import (
	"math"
	"math/big"
	"math/rand/v2"
	"testing"

	"foliot/api"
)

// invalidRatios returns ratios that are not valid.
func invalidRatios() []api.Ratio {
	return []api.Ratio{
		{}, r(1, 0), r(0, 2), r(2, 4), r(1, -2), r(-1, -1), r(0, -1),
		r(api.MaxRatio+1, 1), r(-api.MaxRatio-1, 1), r(1, api.MaxRatio+1), r(api.MaxRatio, api.MaxRatio),
		r(math.MinInt64, 1), r(1, math.MinInt64), r(math.MaxInt64, 1), r(1, math.MaxInt64), r(math.MinInt64, math.MinInt64),
	}
}

// numbers returns valid ratios around 0, at the ends of the ratios, and at the ends of the limits and just beside them.
func numbers() []api.Ratio {
	all := []api.Ratio{
		r(0, 1), r(1, 1), r(-1, 1), r(1, 2), r(-1, 2), r(5, 2), r(-5, 2), r(7, 3), r(-7, 3), r(3, 1), r(-3, 1),
		r(1, api.MaxRatio), r(-1, api.MaxRatio), r(api.MaxRatio-1, api.MaxRatio), r(-api.MaxRatio, api.MaxRatio-1),
		r(api.MaxRatio, 1), r(-api.MaxRatio, 1), r(api.MaxRatio, 2), r(-api.MaxRatio, 2),
	}
	for _, c := range []int64{most - 1, most, most + 1} {
		all = append(all, r(c, 1), r(-c, 1))
	}
	return all
}

// near returns valid ratios from -4 to 4 and around the constants of some limits; they are the same in each run.
func near() []api.Ratio {
	all := numbers()
	for num := int64(-12); num <= 12; num++ {
		x := big.NewRat(num, 3)
		all = append(all, r(x.Num().Int64(), x.Denom().Int64()))
	}
	g := rand.New(rand.NewPCG(3, 4))
	for _, l := range spread(60) {
		c, _ := parts(l)
		den := 1 + g.Int64N(1+api.MaxRatio/(1+new(big.Int).Abs(c).Int64()))/2
		x := big.NewRat(c.Int64()*den+g.Int64N(3)-1, den)
		if x.Num().CmpAbs(big.NewInt(api.MaxRatio)) <= 0 {
			all = append(all, r(x.Num().Int64(), x.Denom().Int64()))
		}
	}
	return all
}

// number returns the number that a valid ratio stands for.
func number(a api.Ratio) *big.Rat { return big.NewRat(a.Num, a.Den) }

// meetsExactly tells whether x meets a limit, by the definition; the limit may have a constant that is out of range.
func meetsExactly(x *big.Rat, l api.Limit) bool {
	if l == api.NoLimit {
		return true
	}
	c, isStrict := parts(l)
	order := x.Cmp(new(big.Rat).SetInt(c))
	if isStrict {
		return order < 0
	}
	return order <= 0
}

// P2.3
func TestMeets(t *testing.T) {
	for _, c := range []struct {
		d    api.Ratio
		l    api.Limit
		want bool
	}{
		{r(3, 1), 7, true}, {r(3, 1), 6, false}, {r(5, 2), 6, true}, {r(7, 2), 7, false}, {r(7, 2), 6, false},
		{r(-7, 2), -6, true}, {r(-5, 2), -5, false}, {r(-3, 1), -5, true}, {r(-3, 1), -6, false},
		{r(0, 1), 1, true}, {r(0, 1), 0, false}, {r(-1, api.MaxRatio), 0, true}, {r(1, api.MaxRatio), 1, false},
		{r(most, 1), weak(most), true}, {r(most, 1), strict(most), false}, {r(most+1, 1), weak(most), false}, {r(api.MaxRatio, 2), strict(most), true},
		{r(least, 1), weak(least), true}, {r(least, 1), strict(least), false}, {r(least-1, 1), strict(least), true}, {r(-api.MaxRatio, 2), weak(least), false},
		{r(api.MaxRatio, 1), api.NoLimit, true}, {r(-api.MaxRatio, 1), api.NoLimit, true},
		{r(api.MaxRatio, 1), weak(most), false}, {r(-api.MaxRatio, 1), strict(least), true}, {r(1, api.MaxRatio), strict(1), true},
	} {
		if m, e := Meets(c.d, c.l); m != c.want || e != api.OK {
			t.Errorf("Meets(%v, %d): %v, %d", c.d, c.l, m, e)
		}
	}
}

// P2.3
func TestMeetsIsExact(t *testing.T) {
	for _, d := range near() {
		for _, l := range withNone(samples()) {
			if m, e := Meets(d, l); m != meetsExactly(number(d), l) || e != api.OK {
				t.Errorf("Meets(%v, %d): %v, %d", d, l, m, e)
			}
		}
	}
}

// P2.3: a ratio that is not valid meets nothing, not even NoLimit.
func TestInvalidRatios(t *testing.T) {
	for _, d := range invalidRatios() {
		for _, l := range withNone(samples()) {
			if m, e := Meets(d, l); m || e != api.ErrArg {
				t.Errorf("Meets(%v, %d): %v, %d", d, l, m, e)
			}
		}
	}
}

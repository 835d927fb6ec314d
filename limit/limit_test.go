package limit

import (
	"math"
	"math/big"
	"math/rand/v2"
	"testing"

	"foliot/api"
)

const (
	most  = api.MaxBound
	least = -api.MaxBound
)

func weak(c int64) api.Limit   { return api.Limit(2*c + 1) }
func strict(c int64) api.Limit { return api.Limit(2 * c) }

func r(num, den int64) api.Ratio { return api.Ratio{Num: num, Den: den} }

// invalid returns limits just beside the valid ones, and some far from them.
func invalid() []api.Limit {
	return []api.Limit{
		strict(least) - 1, strict(least) - 2, weak(most) + 1, weak(most) + 2,
		api.NoLimit - 1, api.NoLimit + 1, api.NoLimit + 2, -api.NoLimit, 2 * api.NoLimit,
		1 << 32, -1 << 32, 1<<40 - 1<<31, 1 << 41, math.MinInt64, math.MinInt64 + 1, math.MaxInt64, math.MaxInt64 - 1,
	}
}

// edges returns valid limits at the ends and around 0, without NoLimit.
func edges() []api.Limit {
	return []api.Limit{
		strict(least), weak(least), strict(least + 1), weak(least + 1), strict(least / 2), weak(least / 2),
		strict(-1), weak(-1), strict(0), weak(0), strict(1), weak(1),
		strict(most / 2), weak(most / 2), strict(most - 1), weak(most - 1), strict(most), weak(most),
	}
}

// small returns the limits with constants of at most n in absolute value.
func small(n int64) []api.Limit {
	var all []api.Limit
	for c := -n; c <= n; c++ {
		all = append(all, strict(c), weak(c))
	}
	return all
}

// spread returns valid limits of all magnitudes, without NoLimit; they are the same in each run.
func spread(n int) []api.Limit {
	g := rand.New(rand.NewPCG(1, 2))
	var all []api.Limit
	for len(all) < n {
		l := api.Limit(g.Int64N(2*most+2) >> g.IntN(32))
		all = append(all, l, 1-l)
	}
	return all
}

// samples returns valid limits without NoLimit.
func samples() []api.Limit { return append(append(edges(), small(4)...), spread(60)...) }

// withNone returns these limits and NoLimit.
func withNone(all []api.Limit) []api.Limit { return append(all, api.NoLimit) }

// parts returns the constant of a valid limit other than NoLimit, and whether it is strict.
func parts(l api.Limit) (*big.Int, bool) {
	c := new(big.Int).Div(big.NewInt(int64(l)), big.NewInt(2)) // rounded down, as 2 is positive
	return c, new(big.Int).Mul(c, big.NewInt(2)).Int64() == int64(l)
}

func checkLimit(t *testing.T, got api.Limit, e api.Errno, want api.Limit, wantE api.Errno, what string, args ...any) {
	t.Helper()
	if got != want || e != wantE {
		t.Errorf("%s%v: %d, %d; want %d, %d", what, args, got, e, want, wantE)
	}
}

// P2.1
func TestValid(t *testing.T) {
	for _, l := range withNone(samples()) {
		if !Valid(l) {
			t.Errorf("%d is not valid", l)
		}
	}
	for _, l := range invalid() {
		if Valid(l) {
			t.Errorf("%d is valid", l)
		}
	}
	for at, want := range map[api.Limit][7]bool{
		-1 << 31:    {false, false, false, true, true, true, true},
		1<<31 + 1:   {true, true, true, true, false, false, false},
		api.NoLimit: {false, false, false, true, false, false, false},
		0:           {true, true, true, true, true, true, true},
	} {
		for i, w := range want {
			if l := at + api.Limit(i) - 3; Valid(l) != w {
				t.Errorf("%d: valid is not %v", l, w)
			}
		}
	}
}

// P2.1
func TestWeakAndStrict(t *testing.T) {
	for _, c := range []int64{0, 1, -1, 3, -3, 1 << 20, -1 << 20, most - 1, most, least + 1, least} {
		got, e := Weak(c)
		checkLimit(t, got, e, api.Limit(c+c+1), api.OK, "Weak", c)
		got, e = Strict(c)
		checkLimit(t, got, e, api.Limit(c+c), api.OK, "Strict", c)
	}
	for _, c := range []int64{
		most + 1, least - 1, 1 << 31, -1 << 31, 1 << 39, 1 << 40, 1 << 62, -1 << 62, 1<<62 + 1, -1<<62 - 1,
		math.MaxInt64, math.MaxInt64 - 1, math.MinInt64, math.MinInt64 + 1,
	} {
		got, e := Weak(c)
		checkLimit(t, got, e, 0, api.ErrRange, "Weak", c)
		got, e = Strict(c)
		checkLimit(t, got, e, 0, api.ErrRange, "Strict", c)
	}
}

// P2.1
func TestSplit(t *testing.T) {
	for _, c := range []struct {
		l      api.Limit
		c      int64
		strict bool
	}{
		{7, 3, false}, {6, 3, true}, {-5, -3, false}, {-6, -3, true}, {1, 0, false}, {0, 0, true}, {-1, -1, false}, {-2, -1, true},
		{1<<31 + 1, most, false}, {1 << 31, most, true}, {-1<<31 + 1, least, false}, {-1 << 31, least, true},
	} {
		n, s, e := Split(c.l)
		if n != c.c || s != c.strict || e != api.OK {
			t.Errorf("Split(%d): %d, %v, %d", c.l, n, s, e)
		}
	}
	for _, l := range samples() {
		want, wantStrict := parts(l)
		n, s, e := Split(l)
		if n != want.Int64() || s != wantStrict || e != api.OK {
			t.Errorf("Split(%d): %d, %v, %d", l, n, s, e)
		}
	}
	if n, s, e := Split(api.NoLimit); n != 0 || s || e != api.ErrNone {
		t.Errorf("Split of NoLimit: %d, %v, %d", n, s, e)
	}
}

// P2.1: Weak and Strict put together what Split takes apart.
func TestSplitAndBack(t *testing.T) {
	for _, l := range samples() {
		c, isStrict, _ := Split(l)
		f := Weak
		if isStrict {
			f = Strict
		}
		got, e := f(c)
		checkLimit(t, got, e, l, api.OK, "back from", c, isStrict)
	}
}

// P2.2
func TestAdd(t *testing.T) {
	for _, c := range []struct {
		a, b, want api.Limit
		e          api.Errno
	}{
		{7, 4, 10, api.OK}, {7, 7, 13, api.OK}, {6, 4, 10, api.OK}, {-5, 1, -5, api.OK}, {-5, 0, -6, api.OK}, {-5, 7, 1, api.OK}, {-6, 7, 0, api.OK},
		{7, api.NoLimit, api.NoLimit, api.OK}, {api.NoLimit, api.NoLimit, api.NoLimit, api.OK},
		{strict(least), api.NoLimit, api.NoLimit, api.OK}, {weak(most), api.NoLimit, api.NoLimit, api.OK},
		{1 << 31, 2, 0, api.ErrRange}, {-1 << 31, -2, 0, api.ErrRange},
		{weak(most), weak(0), weak(most), api.OK}, {weak(most), strict(0), strict(most), api.OK}, {strict(most), strict(0), strict(most), api.OK},
		{weak(most), weak(1), 0, api.ErrRange}, {weak(most), strict(1), 0, api.ErrRange}, {strict(most), weak(1), 0, api.ErrRange},
		{weak(least), weak(0), weak(least), api.OK}, {weak(least), strict(0), strict(least), api.OK},
		{weak(least), weak(-1), 0, api.ErrRange}, {weak(least), strict(-1), 0, api.ErrRange}, {strict(least), weak(-1), 0, api.ErrRange},
		{weak(most), weak(least), weak(0), api.OK}, {strict(most), weak(least), strict(0), api.OK},
		{weak(most), weak(most), 0, api.ErrRange}, {strict(least), strict(least), 0, api.ErrRange},
		{weak(most / 2), weak(most / 2), weak(most), api.OK}, {weak(most/2 + 1), weak(most / 2), 0, api.ErrRange},
	} {
		got, e := Add(c.a, c.b)
		checkLimit(t, got, e, c.want, c.e, "Add", c.a, c.b)
		got, e = Add(c.b, c.a)
		checkLimit(t, got, e, c.want, c.e, "Add", c.b, c.a)
	}
}

// exactSum returns what Add has to return, by the definition of the sum.
func exactSum(a, b api.Limit) (api.Limit, api.Errno) {
	if a == api.NoLimit || b == api.NoLimit {
		return api.NoLimit, api.OK
	}
	x, xStrict := parts(a)
	y, yStrict := parts(b)
	c := x.Add(x, y)
	if c.CmpAbs(big.NewInt(most)) > 0 {
		return 0, api.ErrRange
	}
	if xStrict || yStrict {
		return strict(c.Int64()), api.OK
	}
	return weak(c.Int64()), api.OK
}

// P2.2
func TestAddIsExact(t *testing.T) {
	all := withNone(samples())
	for _, a := range all {
		for _, b := range all {
			want, wantE := exactSum(a, b)
			got, e := Add(a, b)
			checkLimit(t, got, e, want, wantE, "Add", a, b)
		}
	}
}

// P2.2: the sum is the least limit that all sums meet; so some sum does not meet the limit just below it.
func TestAddIsLeast(t *testing.T) {
	greatest := func(l api.Limit) *big.Rat {
		c, isStrict := parts(l)
		x := new(big.Rat).SetInt(c)
		if isStrict {
			x.Sub(x, big.NewRat(1, 4))
		}
		return x
	}
	for _, a := range samples() {
		for _, b := range samples() {
			s, e := Add(a, b)
			if e != api.OK {
				continue
			}
			x := new(big.Rat).Add(greatest(a), greatest(b))
			if !meetsExactly(x, s) || meetsExactly(x, s-1) {
				t.Errorf("Add(%d, %d) is %d, with the sum %v", a, b, s, x)
			}
		}
	}
}

// P2.2
func TestNot(t *testing.T) {
	for l, want := range map[api.Limit]api.Limit{
		7: -6, -6: 7, 1: 0, 0: 1, 6: -5, -5: 6, 2: -1, -1: 2, 3: -2, -2: 3,
		weak(most): strict(least), strict(most): weak(least), weak(least): strict(most), strict(least): weak(most),
	} {
		got, e := Not(l)
		checkLimit(t, got, e, want, api.OK, "Not", l)
	}
	for _, l := range samples() {
		c, isStrict := parts(l)
		want := strict(-c.Int64())
		if isStrict {
			want = weak(-c.Int64())
		}
		got, e := Not(l)
		checkLimit(t, got, e, want, api.OK, "Not", l)
	}
	got, e := Not(api.NoLimit)
	checkLimit(t, got, e, 0, api.ErrNone, "Not", api.NoLimit)
}

// P2.4
func TestText(t *testing.T) {
	for l, want := range map[api.Limit]string{
		6: "<3", 7: "<=3", -5: "<=-3", -6: "<-3", 0: "<0", 1: "<=0", -1: "<=-1", -2: "<-1", 20: "<10", 201: "<=100",
		weak(most): "<=1073741824", strict(most): "<1073741824", weak(least): "<=-1073741824", strict(least): "<-1073741824",
		weak(most - 1): "<=1073741823", api.NoLimit: "any",
	} {
		if s, e := Text(l); s != want || e != api.OK {
			t.Errorf("Text(%d): %q, %d", l, s, e)
		}
	}
	for _, l := range samples() {
		c, isStrict := parts(l)
		want := "<=" + c.String()
		if isStrict {
			want = "<" + c.String()
		}
		if s, e := Text(l); s != want || e != api.OK {
			t.Errorf("Text(%d): %q, %d", l, s, e)
		}
	}
}

// P2.1, P2.2, P2.3, P2.4: what is not valid is told before anything else.
func TestInvalidLimits(t *testing.T) {
	for _, l := range invalid() {
		if c, s, e := Split(l); c != 0 || s || e != api.ErrArg {
			t.Errorf("Split(%d): %d, %v, %d", l, c, s, e)
		}
		if s, e := Text(l); s != "" || e != api.ErrArg {
			t.Errorf("Text(%d): %q, %d", l, s, e)
		}
		got, e := Not(l)
		checkLimit(t, got, e, 0, api.ErrArg, "Not", l)
		for _, b := range append(withNone(edges()), invalid()...) {
			got, e = Add(l, b)
			checkLimit(t, got, e, 0, api.ErrArg, "Add", l, b)
			got, e = Add(b, l)
			checkLimit(t, got, e, 0, api.ErrArg, "Add", b, l)
		}
		for _, d := range append(numbers(), invalidRatios()...) {
			if m, e := Meets(d, l); m || e != api.ErrArg {
				t.Errorf("Meets(%v, %d): %v, %d", d, l, m, e)
			}
		}
	}
}

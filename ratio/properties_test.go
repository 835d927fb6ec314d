package ratio

import (
	"testing"

	"foliot/api"
)

// samples returns ratios whose sums and products are sometimes out of range, and mostly not.
func samples() []api.Ratio {
	return append(append(small(3), edges()...), spread(15)...)
}

// chain applies f and then g, unless f tells an error.
func chain(f binary, a, b api.Ratio, g func(api.Ratio) (api.Ratio, api.Errno)) (api.Ratio, api.Errno) {
	x, e := f(a, b)
	if e != api.OK {
		return x, e
	}
	return g(x)
}

// P1.6
func TestCommutative(t *testing.T) {
	for _, a := range samples() {
		for _, b := range samples() {
			for name, f := range map[string]binary{"Add": Add, "Mul": Mul} {
				x, e := f(a, b)
				y, g := f(b, a)
				checkRatio(t, x, e, y, g, name, a, b)
			}
		}
	}
}

// P1.6
func TestAssociative(t *testing.T) {
	agreed := 0
	for _, a := range samples() {
		for _, b := range samples() {
			for _, c := range samples() {
				for name, f := range map[string]binary{"Add": Add, "Mul": Mul} {
					x, e := chain(f, a, b, func(s api.Ratio) (api.Ratio, api.Errno) { return f(s, c) })
					y, g := chain(f, b, c, func(s api.Ratio) (api.Ratio, api.Errno) { return f(a, s) })
					if e != api.OK || g != api.OK {
						continue
					}
					agreed++
					checkRatio(t, x, e, y, g, name, a, b, c)
				}
			}
		}
	}
	if agreed < 10000 {
		t.Errorf("only %d sums and products are in range", agreed)
	}
}

// P1.6
func TestDistributive(t *testing.T) {
	agreed := 0
	for _, a := range samples() {
		for _, b := range samples() {
			for _, c := range samples() {
				x, e := chain(Add, b, c, func(s api.Ratio) (api.Ratio, api.Errno) { return Mul(a, s) })
				ab, f := Mul(a, b)
				ac, g := Mul(a, c)
				if e != api.OK || f != api.OK || g != api.OK {
					continue
				}
				y, h := Add(ab, ac)
				agreed++
				checkRatio(t, x, e, y, h, "distributive", a, b, c)
			}
		}
	}
	if agreed < 10000 {
		t.Errorf("only %d sums and products are in range", agreed)
	}
}

// P1.6
func TestInverses(t *testing.T) {
	for _, a := range samples() {
		for _, b := range samples() {
			if s, e := Add(a, b); e == api.OK {
				x, e := Sub(s, b)
				checkRatio(t, x, e, a, api.OK, "Sub of Add", a, b)
			}
			if p, e := Mul(a, b); e == api.OK && b.Num != 0 {
				x, e := Div(p, b)
				checkRatio(t, x, e, a, api.OK, "Div of Mul", a, b)
			}
		}
	}
}

// P1.6
func TestCmpIsSignOfDifference(t *testing.T) {
	for _, a := range samples() {
		for _, b := range samples() {
			d, e := Sub(a, b)
			if e != api.OK {
				continue
			}
			order, _ := Cmp(a, b)
			sign, _ := Cmp(d, r(0, 1))
			if order != sign || order == 1 != (d.Num > 0) || order == -1 != (d.Num < 0) {
				t.Errorf("Cmp(%v, %v) is %d, the difference %v", a, b, order, d)
			}
		}
	}
}

// P1.6
func TestReadOfText(t *testing.T) {
	for _, a := range append(samples(), spread(1000)...) {
		s, e := Text(a)
		if e != api.OK {
			t.Errorf("Text(%v): %d", a, e)
		}
		got, e := Read(s)
		checkRatio(t, got, e, a, api.OK, "Read", s)
	}
}

// P1.7: no lesser denominator, and no lesser number with the same one, has a place between the ends.
func TestMiddleLeavesNothingSimpler(t *testing.T) {
	for _, a := range small(9) {
		for _, b := range small(9) {
			m, e := Middle(a, b)
			if e != api.OK {
				continue
			}
			for den := int64(1); den <= m.Den; den++ {
				next, _ := Floor(a)
				for num := next * den; num*b.Den < b.Num*den; num++ {
					above := num*a.Den > a.Num*den
					if above && (den < m.Den || num < m.Num) {
						t.Errorf("Middle(%v, %v) is %v; %d/%d is simpler", a, b, m, num, den)
					}
				}
			}
		}
	}
}

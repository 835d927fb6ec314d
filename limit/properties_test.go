package limit

import (
	"testing"

	"foliot/api"
	"foliot/ratio"
)

// some returns fewer limits than samples, for tests with all triples of them.
func some() []api.Limit { return withNone(append(append(edges(), small(3)...), spread(20)...)) }

// P2.5
func TestCommutative(t *testing.T) {
	for _, a := range withNone(samples()) {
		for _, b := range withNone(samples()) {
			x, e := Add(a, b)
			y, f := Add(b, a)
			checkLimit(t, x, e, y, f, "Add", a, b)
		}
	}
}

// P2.5
func TestAssociative(t *testing.T) {
	agreed := 0
	for _, a := range some() {
		for _, b := range some() {
			ab, e := Add(a, b)
			if e != api.OK {
				continue
			}
			for _, c := range some() {
				bc, e := Add(b, c)
				if e != api.OK {
					continue
				}
				x, e := Add(ab, c)
				y, f := Add(a, bc)
				agreed++
				checkLimit(t, x, e, y, f, "Add", a, b, c)
			}
		}
	}
	if agreed < 10000 {
		t.Errorf("only %d sums are in range", agreed)
	}
}

// P2.5: greater limits have greater sums, or equal ones.
func TestAddKeepsOrder(t *testing.T) {
	compared := 0
	for _, a := range some() {
		for _, b := range some() {
			for _, c := range some() {
				x, e := Add(a, c)
				y, f := Add(b, c)
				if a > b || e != api.OK || f != api.OK {
					continue
				}
				compared++
				if x > y {
					t.Errorf("Add(%d, %d) is %d, Add(%d, %d) is %d", a, c, x, b, c, y)
				}
			}
		}
	}
	if compared < 10000 {
		t.Errorf("only %d sums are in range", compared)
	}
}

// P2.5
func TestNotOfNot(t *testing.T) {
	for _, l := range samples() {
		n, e := Not(l)
		if e != api.OK || !Valid(n) {
			t.Errorf("Not(%d): %d, %d", l, n, e)
		}
		got, e := Not(n)
		checkLimit(t, got, e, l, api.OK, "Not of Not", l)
	}
}

// P2.5: a number meets a limit exactly if its negative does not meet the opposite.
func TestNegativesMeetTheOpposite(t *testing.T) {
	for _, l := range samples() {
		n, _ := Not(l)
		for _, d := range near() {
			negative, _ := ratio.Neg(d)
			x, e := Meets(d, l)
			y, f := Meets(negative, n)
			if x == y || e != api.OK || f != api.OK {
				t.Errorf("%v and %d: %v, %d; the negative and %d: %v, %d", d, l, x, e, n, y, f)
			}
		}
	}
}

// meeting returns those of the numbers that meet a limit.
func meeting(l api.Limit) []api.Ratio {
	var all []api.Ratio
	for _, d := range near() {
		if m, e := Meets(d, l); m && e == api.OK {
			all = append(all, d)
		}
	}
	return all
}

// P2.6
func TestSumsMeetSums(t *testing.T) {
	met := 0
	for _, a := range withNone(append(edges(), 7, -6)) {
		for _, b := range withNone(append(edges(), 7, -6)) {
			s, e := Add(a, b)
			if e != api.OK {
				continue
			}
			ys := meeting(b)
			for _, x := range meeting(a) {
				for _, y := range ys {
					z, e := ratio.Add(x, y)
					if e != api.OK {
						continue
					}
					met++
					if m, e := Meets(z, s); !m || e != api.OK {
						t.Errorf("%v meets %d, %v meets %d, but %v does not meet %d", x, a, y, b, z, s)
					}
				}
			}
		}
	}
	if met < 10000 {
		t.Errorf("only %d pairs of numbers meet", met)
	}
}

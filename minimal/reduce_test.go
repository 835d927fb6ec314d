package minimal

import (
	"cmp"
	"math/rand/v2"
	"slices"
	"testing"

	"foliot/api"
	"foliot/zone"
)

// chain returns the constraints that each clock minus the next one is at most 0, and the last one minus end.
func chain(n, end int) []api.Constraint {
	var l []api.Constraint
	for i := 1; i < n; i++ {
		l = append(l, says(i, i+1, weak(0)))
	}
	return append(l, says(n, end, weak(0)))
}

func checkReduce(t *testing.T, z api.Zone, want []api.Constraint) {
	t.Helper()
	l, e := Reduce(z)
	if e != api.OK || !slices.Equal(l, want) {
		t.Errorf("Reduce(%v): %v, %d; want %v", z, l, e, want)
	}
}

// P4.1: from no clocks to as many as there may be.
func TestReduceOfAllAndZero(t *testing.T) {
	for n := range api.MaxDim + 1 {
		all, _ := zone.All(n)
		checkReduce(t, all, nil)
		zero, _ := zone.Zero(n)
		turned, _ := zone.Up(zero)
		switch n {
		case 0:
			checkReduce(t, zero, nil)
			checkReduce(t, turned, nil)
		case 1:
			checkReduce(t, zero, chain(1, 0))
			checkReduce(t, turned, nil)
		default:
			checkReduce(t, zero, chain(n, 0))
			checkReduce(t, turned, chain(n, 1))
		}
	}
}

// P4.1: clocks of one class.
func TestReduceWithinClasses(t *testing.T) {
	for _, c := range []struct{ given, want []api.Constraint }{
		// The clock 1 is bound to the clock 0; at 0 only its end has to be said.
		{equals(1, 0, 0), []api.Constraint{says(1, 0, weak(0))}},
		{equals(1, 0, 3), []api.Constraint{says(0, 1, weak(-3)), says(1, 0, weak(3))}},
		// The clocks 1 and 2 are; only the bound from the clock 0 is left out, and only if it is "at most 0".
		{slices.Concat(equals(1, 0, 2), equals(2, 0, 0)), []api.Constraint{says(0, 1, weak(-2)), says(1, 2, weak(2)), says(2, 0, weak(0))}},
		{slices.Concat(equals(1, 0, 0), equals(2, 0, 2)), []api.Constraint{says(1, 2, weak(-2)), says(2, 0, weak(2))}},
		{slices.Concat(equals(1, 0, 4), equals(2, 0, 4)), []api.Constraint{says(0, 1, weak(-4)), says(1, 2, weak(0)), says(2, 0, weak(4))}},
		// Clocks that are bound to each other, with others between them and behind them.
		{equals(1, 3, 0), []api.Constraint{says(1, 3, weak(0)), says(3, 1, weak(0))}},
		{equals(1, 3, 5), []api.Constraint{says(1, 3, weak(5)), says(3, 1, weak(-5))}},
		{slices.Concat(equals(1, 3, 0), equals(3, 4, 0)), []api.Constraint{says(1, 3, weak(0)), says(3, 4, weak(0)), says(4, 1, weak(0))}},
		{slices.Concat(equals(4, 3, 2), equals(4, 2, 3)), []api.Constraint{says(2, 3, weak(-1)), says(3, 4, weak(-2)), says(4, 2, weak(3))}},
		// Two classes.
		{slices.Concat(equals(1, 3, 0), equals(2, 4, 0)), []api.Constraint{says(1, 3, weak(0)), says(2, 4, weak(0)), says(3, 1, weak(0)), says(4, 2, weak(0))}},
		{slices.Concat(equals(1, 4, 0), equals(2, 0, 0)), []api.Constraint{says(1, 4, weak(0)), says(2, 0, weak(0)), says(4, 1, weak(0))}},
		{slices.Concat(equals(1, 2, 0), equals(4, 0, 7)), []api.Constraint{says(0, 4, weak(-7)), says(1, 2, weak(0)), says(2, 1, weak(0)), says(4, 0, weak(7))}},
		// A difference that is nearly the same at all points binds nothing.
		{[]api.Constraint{says(1, 2, weak(0)), says(2, 1, weak(1))}, []api.Constraint{says(1, 2, weak(0)), says(2, 1, weak(1))}},
		{[]api.Constraint{says(1, 2, weak(0)), says(2, 1, strict(1))}, []api.Constraint{says(1, 2, weak(0)), says(2, 1, strict(1))}},
		{[]api.Constraint{says(1, 0, strict(1))}, []api.Constraint{says(1, 0, strict(1))}},
		// As great as can be.
		{equals(1, 0, most), []api.Constraint{says(0, 1, weak(least)), says(1, 0, weak(most))}},
		{equals(2, 1, most), []api.Constraint{says(1, 2, weak(least)), says(2, 1, weak(most))}},
	} {
		checkReduce(t, made(t, 4, c.given...), c.want)
	}
}

// P4.1: clocks of two classes.
func TestReduceBetweenClasses(t *testing.T) {
	for _, c := range []struct{ given, want []api.Constraint }{
		{[]api.Constraint{says(1, 0, weak(5)), says(2, 0, strict(3))}, []api.Constraint{says(1, 0, weak(5)), says(2, 0, strict(3))}},
		{[]api.Constraint{says(0, 1, weak(-2)), says(1, 2, weak(-1))}, []api.Constraint{says(0, 1, weak(-2)), says(1, 2, weak(-1))}},
		{[]api.Constraint{says(3, 4, strict(-1))}, []api.Constraint{says(3, 4, strict(-1))}},
		// "More than 0" is said, "from 0 on" is not.
		{[]api.Constraint{says(0, 3, strict(0))}, []api.Constraint{says(0, 3, strict(0))}},
		{[]api.Constraint{says(0, 3, weak(0))}, nil},
		{[]api.Constraint{says(0, 3, weak(1)), says(2, 2, weak(0)), says(4, 2, none)}, nil},
		// By way of a third class: the sum, less than that, the strict one of it.
		{[]api.Constraint{says(1, 0, weak(5)), says(2, 1, weak(2)), says(2, 0, weak(7))}, []api.Constraint{says(1, 0, weak(5)), says(2, 1, weak(2))}},
		{[]api.Constraint{says(1, 0, weak(5)), says(2, 1, weak(2)), says(2, 0, weak(6))}, []api.Constraint{says(1, 0, weak(5)), says(2, 0, weak(6)), says(2, 1, weak(2))}},
		{[]api.Constraint{says(1, 0, weak(5)), says(2, 1, weak(2)), says(2, 0, strict(7))}, []api.Constraint{says(1, 0, weak(5)), says(2, 0, strict(7)), says(2, 1, weak(2))}},
		{[]api.Constraint{says(1, 0, weak(5)), says(2, 1, strict(2))}, []api.Constraint{says(1, 0, weak(5)), says(2, 1, strict(2))}},
		{[]api.Constraint{says(3, 0, strict(5)), says(4, 3, strict(2)), says(4, 0, strict(7))}, []api.Constraint{says(3, 0, strict(5)), says(4, 3, strict(2))}},
		// By way of the clock 0.
		{[]api.Constraint{says(1, 0, weak(5)), says(0, 2, weak(-3))}, []api.Constraint{says(0, 2, weak(-3)), says(1, 0, weak(5))}},
		{[]api.Constraint{says(1, 0, weak(5)), says(0, 2, weak(-3)), says(1, 2, strict(2))}, []api.Constraint{says(0, 2, weak(-3)), says(1, 0, weak(5)), says(1, 2, strict(2))}},
		// By way of two other classes.
		{[]api.Constraint{says(1, 2, weak(1)), says(2, 3, weak(1)), says(3, 4, weak(1)), says(1, 4, weak(3))}, []api.Constraint{says(1, 2, weak(1)), says(2, 3, weak(1)), says(3, 4, weak(1))}},
		// Only the first clocks of the classes 1, 3 and 2, 4 are compared.
		{slices.Concat(equals(1, 3, 0), equals(2, 4, 0), []api.Constraint{says(3, 4, weak(-2))}), []api.Constraint{says(1, 2, weak(-2)), says(1, 3, weak(0)), says(2, 4, weak(0)), says(3, 1, weak(0)), says(4, 2, weak(0))}},
		{slices.Concat(equals(2, 0, 1), []api.Constraint{says(3, 2, weak(4))}), []api.Constraint{says(0, 2, weak(-1)), says(2, 0, weak(1)), says(3, 0, weak(5))}},
		// The clock 1 is the clock 2 plus 3: that it is at least 3 need not be said, more than 3 must be, likewise with the clock 2 instead.
		{equals(1, 2, 3), []api.Constraint{says(1, 2, weak(3)), says(2, 1, weak(-3))}},
		{equals(2, 1, 3), []api.Constraint{says(1, 2, weak(-3)), says(2, 1, weak(3))}},
		{append(equals(1, 2, 3), says(0, 2, strict(0))), []api.Constraint{says(0, 1, strict(-3)), says(1, 2, weak(3)), says(2, 1, weak(-3))}},
		{append(equals(2, 1, 3), says(0, 1, strict(0))), []api.Constraint{says(0, 1, strict(0)), says(1, 2, weak(-3)), says(2, 1, weak(3))}},
		{append(equals(1, 2, 3), says(0, 2, weak(-1))), []api.Constraint{says(0, 1, weak(-4)), says(1, 2, weak(3)), says(2, 1, weak(-3))}},
		// That a clock is from 0 on says something of the clock 0 only.
		{append(equals(2, 0, 0), says(3, 0, weak(2)), says(1, 3, weak(1))), []api.Constraint{says(1, 3, weak(1)), says(2, 0, weak(0)), says(3, 0, weak(2))}},
		{[]api.Constraint{says(1, 2, weak(0))}, []api.Constraint{says(1, 2, weak(0))}},
		// Sums that are out of range are no elements.
		{[]api.Constraint{says(2, 1, weak(most-1)), says(1, 0, weak(most)), says(2, 0, weak(most))}, []api.Constraint{says(1, 0, weak(most)), says(2, 0, weak(most)), says(2, 1, weak(most-1))}},
		{[]api.Constraint{says(1, 2, strict(0)), says(1, 3, weak(most)), says(3, 2, weak(1))}, []api.Constraint{says(1, 2, strict(0)), says(1, 3, weak(most)), says(3, 2, weak(1))}},
		{[]api.Constraint{says(1, 2, weak(0)), says(1, 3, weak(most)), says(3, 2, weak(1))}, []api.Constraint{says(1, 2, weak(0)), says(1, 3, weak(most)), says(3, 2, weak(1))}},
		{[]api.Constraint{says(1, 0, weak(most)), says(2, 0, weak(most))}, []api.Constraint{says(1, 0, weak(most)), says(2, 0, weak(most))}},
		{[]api.Constraint{says(0, 1, weak(least/2)), says(1, 2, weak(least/2)), says(0, 2, strict(least))}, []api.Constraint{says(0, 1, weak(least/2)), says(0, 2, strict(least)), says(1, 2, weak(least/2))}},
		{[]api.Constraint{says(0, 1, weak(least/2)), says(1, 2, weak(least/2))}, []api.Constraint{says(0, 1, weak(least/2)), says(1, 2, weak(least/2))}},
	} {
		checkReduce(t, made(t, 4, c.given...), c.want)
	}
}

// P4.1
func TestReduceOfNoZone(t *testing.T) {
	for _, z := range invalidZones() {
		if l, e := Reduce(z); len(l) != 0 || e != api.ErrArg {
			t.Errorf("Reduce(%v): %v, %d", z, l, e)
		}
	}
}

// defined tells the reduced constraints of a zone, by the definition word for
// word, and counts what decides about each element.
type defined struct {
	z       api.Zone
	decided map[string]int
}

func (d defined) m(i, j int) api.Limit { return d.z.M[i*(d.z.N+1)+j] }

// class returns the clocks that are bound to i, and i, in ascending order.
func (d defined) class(i int) []int {
	var all []int
	for j := range d.z.N + 1 {
		if plus(d.m(i, j), d.m(j, i)) == weak(0) {
			all = append(all, j)
		}
	}
	return all
}

// why says by which rule the constraint of i and j is one of the reduced ones; otherwise the word begins with "not".
func (d defined) why(i, j int) string {
	ours, theirs := d.class(i), d.class(j)
	atMostZero := func(k int) bool { return i == 0 && d.m(0, k) == weak(0) }
	switch {
	case i == j:
		return "not: one clock"
	case d.m(i, j) == none:
		return "not: no limit"
	case slices.Contains(ours, j):
		place := slices.Index(ours, i)
		switch last := place == len(ours)-1; {
		case last && j != ours[0], !last && j != ours[place+1]:
			return "not: not next"
		case atMostZero(j):
			return "not: at most 0 within"
		case last:
			return "last"
		}
		return "next"
	case i != ours[0] || j != theirs[0]:
		return "not: not first"
	}
	for k := range d.z.N + 1 {
		if d.class(k)[0] == k && k != i && k != j && plus(d.m(i, k), d.m(k, j)) == d.m(i, j) {
			return "not: sum"
		}
	}
	if slices.ContainsFunc(theirs, atMostZero) {
		if atMostZero(j) {
			return "not: at most 0"
		}
		return "not: at most 0 of another clock"
	}
	return "between"
}

func (d defined) reduced() []api.Constraint {
	var l []api.Constraint
	for j := range d.z.N + 1 {
		for i := range d.z.N + 1 {
			why := d.why(i, j)
			d.decided[why]++
			if why[:3] != "not" {
				l = append(l, says(i, j, d.m(i, j)))
			}
		}
	}
	slices.SortFunc(l, func(a, b api.Constraint) int { return cmp.Or(a.I-b.I, a.J-b.J) })
	return l
}

// checkDecided checks that each rule decides often enough.
func checkDecided(t *testing.T, decided map[string]int, enough int) {
	t.Helper()
	for _, why := range []string{
		"not: one clock", "not: no limit", "not: not next", "not: at most 0 within", "last", "next",
		"not: not first", "not: sum", "not: at most 0", "not: at most 0 of another clock", "between",
	} {
		if decided[why] < enough {
			t.Errorf("%q decides only %d times", why, decided[why])
		}
	}
}

// P4.1
func TestReduceIsExact(t *testing.T) {
	decided := map[string]int{}
	eachZone(func(g *rand.Rand, z api.Zone) {
		checkReduce(t, z, defined{z, decided}.reduced())
	})
	checkDecided(t, decided, 500)
}

// P4.1
func TestReduceOfSmallZones(t *testing.T) {
	decided, count := map[string]int{}, 0
	eachSmallZone(func(z api.Zone) {
		count++
		checkReduce(t, z, defined{z, decided}.reduced())
	})
	checkDecided(t, decided, 5)
	if count < 300 {
		t.Errorf("only %d zones", count)
	}
}

// P4.1: in ascending order, each one once, with the element of the matrix.
func TestReduceIsInOrder(t *testing.T) {
	eachZone(func(g *rand.Rand, z api.Zone) {
		l := reduce(t, z)
		for place, c := range l {
			if c.L != z.M[c.I*(z.N+1)+c.J] {
				t.Errorf("Reduce(%v): %v is not the element", z, c)
			}
			if place > 0 && (l[place-1].I > c.I || l[place-1].I == c.I && l[place-1].J >= c.J) {
				t.Errorf("Reduce(%v): %v is behind %v", z, c, l[place-1])
			}
		}
	})
}

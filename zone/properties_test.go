package zone

import (
	"math/big"
	"math/rand/v2"
	"testing"

	"foliot/api"
)

// includes tells whether b is in a, both of which have to be valid.
func includes(t *testing.T, a, b api.Zone) bool {
	t.Helper()
	in, e := Includes(a, b)
	if e != api.OK {
		t.Errorf("Includes(%v, %v): %d", a, b, e)
	}
	return in
}

// results returns what the functions make of two zones of one dimension, by names, without empty sets and those out of range.
func results(g *rand.Rand, a, b api.Zone, size int64) map[string]api.Zone {
	all := map[string]api.Zone{}
	keep := func(name string) func(api.Zone, api.Errno) {
		return func(z api.Zone, e api.Errno) {
			if e == api.OK {
				all[name] = z
			}
		}
	}
	keep("Close")(Close(a.N, randomMatrix(g, a.N, size)))
	keep("Zero")(Zero(a.N))
	keep("All")(All(a.N))
	keep("And")(And(a, []api.Constraint{{I: g.IntN(a.N + 1), J: g.IntN(a.N + 1), L: randomLimit(g, size)}}))
	keep("Up")(Up(a))
	keep("Down")(Down(a))
	keep("Meet")(Meet(a, b))
	keep("Hull")(Hull(a, b))
	if a.N > 0 {
		i, c := 1+g.IntN(a.N), g.Int64N(min(size, api.MaxConst)+1)
		keep("Reset")(Reset(a, i, c))
		keep("Free")(Free(a, i))
		keep("Copy")(Copy(a, i, g.IntN(a.N+1)))
		keep("Before")(Before(a, i, c))
	}
	return all
}

// P3.10
func TestResultsAreValid(t *testing.T) {
	made := map[string]int{}
	eachZone(8, func(g *rand.Rand, a api.Zone, size int64) {
		a = loosened(g, a)
		for name, z := range results(g, a, loosened(g, randomZone(g, a.N, size)), size) {
			made[name]++
			if e := Check(z); e != api.OK || z.N != a.N {
				t.Errorf("%s of %v: %v, %d", name, a, z, e)
			}
		}
	})
	for _, name := range []string{"Close", "Zero", "All", "And", "Up", "Down", "Meet", "Hull", "Reset", "Free", "Copy", "Before"} {
		if made[name] < 50 {
			t.Errorf("%s is made only %d times", name, made[name])
		}
	}
}

// P3.10
func TestContained(t *testing.T) {
	eachZone(8, func(g *rand.Rand, a api.Zone, size int64) {
		b := loosened(g, randomZone(g, a.N, size))
		all := results(g, a, b, size)
		for _, name := range []string{"All", "Up", "Down", "Free", "Hull"} {
			if z, found := all[name]; found && !includes(t, z, a) {
				t.Errorf("%s of %v does not contain it: %v", name, a, z)
			}
		}
		for _, name := range []string{"And", "Meet"} {
			if z, found := all[name]; found && !includes(t, a, z) {
				t.Errorf("%s of %v is not contained in it: %v", name, a, z)
			}
		}
		if z, found := all["Meet"]; found && !includes(t, b, z) || !includes(t, all["Hull"], b) {
			t.Errorf("Meet and Hull of %v and %v: %v, %v", a, b, z, all["Hull"])
		}
		up, e := Up(all["Up"])
		checkZone(t, up, e, all["Up"], api.OK, "Up of Up", a)
		down, e := Down(all["Down"])
		checkZone(t, down, e, all["Down"], api.OK, "Down of Down", a)
	})
}

// P3.6, P3.10: no zone that contains both is less than the hull.
func TestHullIsLeast(t *testing.T) {
	compared := 0
	eachZone(8, func(g *rand.Rand, a api.Zone, size int64) {
		b, c := randomZone(g, a.N, size), loosened(g, randomZone(g, a.N, size))
		hull := must(t)(Hull(a, b))
		if includes(t, c, a) && includes(t, c, b) {
			compared++
			if !includes(t, c, hull) {
				t.Errorf("%v contains %v and %v, but not %v", c, a, b, hull)
			}
		}
	})
	if compared < 30 {
		t.Errorf("only %d zones contain both", compared)
	}
}

// P3.10: zones that contain each other are the same.
func TestIncludesAgreesWithSame(t *testing.T) {
	g := rand.New(rand.NewPCG(7, 8))
	for n := range 4 {
		var all []api.Zone
		for range 60 {
			all = append(all, randomZone(g, n, 1))
		}
		for _, a := range all {
			for _, b := range all {
				if (includes(t, a, b) && includes(t, b, a)) != Same(a, b) {
					t.Errorf("%v and %v", a, b)
				}
			}
		}
	}
}

// P3.11
func TestPointsOfChanges(t *testing.T) {
	inside, outside := 0, 0
	eachZone(8, func(g *rand.Rand, z api.Zone, size int64) {
		if z.N == 0 {
			return
		}
		i, c := 1+g.IntN(z.N), g.Int64N(min(size, api.MaxConst)+1)
		if g.IntN(2) == 0 {
			z = loosened(g, z)
		}
		reset := must(t)(Reset(z, i, c))
		before, e := Before(z, i, c)
		if e == api.ErrRange {
			return
		}
		for _, p := range pointsAround(g, z, size) {
			set := append([]api.Ratio{}, p...)
			set[i-1] = r(c, 1)
			in, e := Has(z, p)
			setIn, f := Has(z, set)
			if e != api.OK || f != api.OK {
				continue
			}
			if in {
				inside++
				if has, e := Has(reset, set); !has || e != api.OK {
					t.Errorf("%v is in %v, but %v not in %v", p, z, set, reset)
				}
			}
			beforeIn := false
			if before.M != nil {
				beforeIn, _ = Has(before, p)
			}
			if !setIn {
				outside++
			}
			if beforeIn != setIn {
				t.Errorf("%v in Before(%v, %d, %d) is not %v", p, z, i, c, setIn)
			}
		}
	})
	if inside < 100 || outside < 100 {
		t.Errorf("%d points are in zones, %d not in them when they are set", inside, outside)
	}
}

// P3.11
func TestPointsOfMeetAndAnd(t *testing.T) {
	inside, outside := 0, 0
	eachZone(8, func(g *rand.Rand, a api.Zone, size int64) {
		b := loosened(g, randomZone(g, a.N, size))
		l := []api.Constraint{{I: g.IntN(a.N + 1), J: g.IntN(a.N + 1), L: randomLimit(g, size)}, {I: g.IntN(a.N + 1), J: g.IntN(a.N + 1), L: randomLimit(g, size)}}
		meet, e := Meet(a, b)
		and, f := And(a, l)
		for _, p := range pointsAround(g, a, size) {
			inA, errA := Has(a, p)
			inB, _ := Has(b, p)
			if errA != api.OK {
				continue
			}
			if e != api.ErrRange {
				in := false
				if e == api.OK {
					in, _ = Has(meet, p)
				}
				if in != (inA && inB) {
					t.Errorf("%v in the Meet of %v and %v: %v", p, a, b, in)
				}
			}
			met := true
			for _, c := range l {
				values := append([]*big.Rat{new(big.Rat)}, exact(p)...)
				met = met && meetsExactly(new(big.Rat).Sub(values[c.I], values[c.J]), c.L)
			}
			if f != api.ErrRange {
				in := false
				if f == api.OK {
					in, _ = Has(and, p)
				}
				if in != (inA && met) {
					t.Errorf("%v in And(%v, %v): %v", p, a, l, in)
				}
				if in {
					inside++
				} else {
					outside++
				}
			}
		}
	})
	if inside < 100 || outside < 100 {
		t.Errorf("%d points are inside, %d are not", inside, outside)
	}
}

// P3.12
func TestPointIsInTheZone(t *testing.T) {
	found := 0
	eachZone(12, func(g *rand.Rand, z api.Zone, size int64) {
		for _, z := range []api.Zone{z, loosened(g, z)} {
			p, e := Point(z)
			if e != api.OK {
				continue
			}
			found++
			if !contains(z, exact(p)) {
				t.Errorf("%v is not in %v", p, z)
			}
			if in, e := Has(z, p); !in && e == api.OK {
				t.Errorf("%v is not in %v: %d", p, z, e)
			}
		}
	})
	if found < 500 {
		t.Errorf("only %d points", found)
	}
}

// delaysHave tells whether d is one of the delays.
func delaysHave(all api.Delays, d *big.Rat) bool {
	low := d.Cmp(number(all.Low))
	if low < 0 || low == 0 && all.LowOpen {
		return false
	}
	if all.NoHigh {
		return true
	}
	high := d.Cmp(number(all.High))
	return high < 0 || high == 0 && !all.HighOpen
}

// P3.12
func TestDelays(t *testing.T) {
	inside, outside := 0, 0
	eachZone(6, func(g *rand.Rand, z api.Zone, size int64) {
		down := must(t)(Down(z))
		for _, p := range pointsAround(g, z, size) {
			all, e := Stay(z, p)
			if e != api.OK && e != api.ErrNone {
				continue
			}
			if in, f := Has(down, p); in != (e == api.OK) || f != api.OK {
				t.Errorf("%v in Down(%v): %v, %d; Stay: %d", p, z, in, f, e)
			}
			tries := []*big.Rat{new(big.Rat), big.NewRat(1, 2), big.NewRat(size, 1), big.NewRat(g.Int64N(4*size+1), 4)}
			if e == api.OK {
				for _, end := range []api.Ratio{all.Low, all.High} {
					for _, beside := range []int64{-1, 0, 1} {
						if end.Den > 0 {
							tries = append(tries, new(big.Rat).Add(number(end), big.NewRat(beside, 1000)))
						}
					}
				}
			}
			for _, d := range tries {
				if d.Sign() < 0 {
					continue
				}
				in := contains(z, later(exact(p), d))
				if in != (e == api.OK && delaysHave(all, d)) {
					t.Errorf("%v behind %v in %v is %v; Stay: %v, %d", p, d, z, in, all, e)
				}
				if in {
					inside++
				} else {
					outside++
				}
			}
		}
	})
	if inside < 500 || outside < 500 {
		t.Errorf("%d points are inside, %d are not", inside, outside)
	}
}

package zone

import (
	"slices"
	"testing"

	"foliot/api"
)

// guarded returns a list with the same elements in memory that goes on behind
// them, all of that memory, and a copy of it.
func guarded[T any](l []T, behind T) (list, memory, before []T) {
	memory = append(slices.Clone(l), slices.Repeat([]T{behind}, 40)...)
	return memory[:len(l)], memory, slices.Clone(memory)
}

// calls returns all the functions that get a list, with what they return put into lists.
func calls(z, other api.Zone, l []api.Constraint, p []api.Ratio) map[string]func() ([]api.Limit, []api.Ratio) {
	made := func(z api.Zone, e api.Errno) ([]api.Limit, []api.Ratio) { return z.M, nil }
	return map[string]func() ([]api.Limit, []api.Ratio){
		"Check":     func() ([]api.Limit, []api.Ratio) { Check(z); return nil, nil },
		"Same":      func() ([]api.Limit, []api.Ratio) { Same(z, other); return nil, nil },
		"Close":     func() ([]api.Limit, []api.Ratio) { return made(Close(z.N, z.M)) },
		"And":       func() ([]api.Limit, []api.Ratio) { return made(And(z, l)) },
		"And of no": func() ([]api.Limit, []api.Ratio) { return made(And(z, nil)) },
		"Up":        func() ([]api.Limit, []api.Ratio) { return made(Up(z)) },
		"Down":      func() ([]api.Limit, []api.Ratio) { return made(Down(z)) },
		"Reset":     func() ([]api.Limit, []api.Ratio) { return made(Reset(z, 1, 1)) },
		"Free":      func() ([]api.Limit, []api.Ratio) { return made(Free(z, 2)) },
		"Copy":      func() ([]api.Limit, []api.Ratio) { return made(Copy(z, 1, 2)) },
		"Copy of 1": func() ([]api.Limit, []api.Ratio) { return made(Copy(z, 1, 1)) },
		"Before":    func() ([]api.Limit, []api.Ratio) { return made(Before(z, 1, 2)) },
		"Meet":      func() ([]api.Limit, []api.Ratio) { return made(Meet(z, other)) },
		"Hull":      func() ([]api.Limit, []api.Ratio) { return made(Hull(z, other)) },
		"Hull of 1": func() ([]api.Limit, []api.Ratio) { return made(Hull(z, z)) },
		"Zero":      func() ([]api.Limit, []api.Ratio) { return made(Zero(2)) },
		"All":       func() ([]api.Limit, []api.Ratio) { return made(All(2)) },
		"Includes":  func() ([]api.Limit, []api.Ratio) { Includes(z, other); return nil, nil },
		"Has":       func() ([]api.Limit, []api.Ratio) { Has(z, p); return nil, nil },
		"Stay":      func() ([]api.Limit, []api.Ratio) { Stay(z, p); return nil, nil },
		"Point":     func() ([]api.Limit, []api.Ratio) { q, _ := Point(z); return nil, q },
	}
}

// P3.1 to P3.9, rule R3: arguments are not changed, not even behind their lengths, and results are new memory.
func TestArgumentsAndResults(t *testing.T) {
	zM, zAll, zBefore := guarded([]api.Limit{1, 1, 1, 11, 1, 11, 6, 6, 1}, 77)
	oM, oAll, oBefore := guarded([]api.Limit{1, -3, -1, none, 1, none, none, none, 1}, 78)
	l, lAll, lBefore := guarded([]api.Constraint{{I: 1, L: 9}, {J: 2, L: -1}}, api.Constraint{I: 7, J: 7, L: 7})
	p, pAll, pBefore := guarded([]api.Ratio{{Num: 1, Den: 2}, {Num: 1, Den: 3}}, api.Ratio{Num: 7, Den: 9})
	unchanged := func() bool {
		return slices.Equal(zAll, zBefore) && slices.Equal(oAll, oBefore) && slices.Equal(lAll, lBefore) && slices.Equal(pAll, pBefore)
	}
	for name, call := range calls(api.Zone{N: 2, M: zM}, api.Zone{N: 2, M: oM}, l, p) {
		limits, values := call()
		again, valuesAgain := call()
		if !unchanged() {
			t.Fatalf("%s changes an argument", name)
		}
		if !slices.Equal(limits, again) || !slices.Equal(values, valuesAgain) {
			t.Errorf("%s: %v, %v, and then %v, %v", name, limits, values, again, valuesAgain)
		}
		wantLimits, wantValues := slices.Clone(limits), slices.Clone(values)
		for i := range again[:cap(again)] {
			again[:cap(again)][i] = -99
		}
		for i := range valuesAgain[:cap(valuesAgain)] {
			valuesAgain[:cap(valuesAgain)][i] = api.Ratio{Num: -99}
		}
		if !unchanged() {
			t.Fatalf("the result of %s shares memory with an argument", name)
		}
		if !slices.Equal(limits, wantLimits) || !slices.Equal(values, wantValues) {
			t.Errorf("two results of %s share memory", name)
		}
		for i := range zAll {
			zAll[i], oAll[i] = -98, -98
		}
		if !slices.Equal(limits, wantLimits) || !slices.Equal(values, wantValues) {
			t.Errorf("the result of %s changes with an argument", name)
		}
		copy(zAll, zBefore)
		copy(oAll, oBefore)
	}
}

// Rule R4: an empty list is as good as none.
func TestEmptyLists(t *testing.T) {
	z := must(t)(All(0))
	for _, l := range [][]api.Constraint{nil, {}} {
		got, e := And(z, l)
		checkZone(t, got, e, z, api.OK, "And", l)
	}
	for _, p := range [][]api.Ratio{nil, {}} {
		if in, e := Has(z, p); !in || e != api.OK {
			t.Errorf("Has: %v, %d", in, e)
		}
		if d, e := Stay(z, p); d != (api.Delays{Low: r(0, 1), NoHigh: true}) || e != api.OK {
			t.Errorf("Stay: %v, %d", d, e)
		}
	}
	for _, m := range [][]api.Limit{nil, {}} {
		if e := Check(api.Zone{M: m}); e != api.ErrArg {
			t.Errorf("Check: %d", e)
		}
		got, e := Close(0, m)
		checkZone(t, got, e, api.Zone{}, api.ErrArg, "Close", m)
	}
}

// P3.2 to P3.9: the dimension 0 has one valuation, without values.
func TestDimensionZero(t *testing.T) {
	z := must(t)(Zero(0))
	for what, f := range map[string]func() (api.Zone, api.Errno){
		"All": func() (api.Zone, api.Errno) { return All(0) }, "Up": func() (api.Zone, api.Errno) { return Up(z) }, "Down": func() (api.Zone, api.Errno) { return Down(z) },
		"Meet": func() (api.Zone, api.Errno) { return Meet(z, z) }, "Hull": func() (api.Zone, api.Errno) { return Hull(z, z) }, "Close": func() (api.Zone, api.Errno) { return Close(0, []api.Limit{none}) },
	} {
		got, e := f()
		checkZone(t, got, e, zoneOf(0, 1), api.OK, what)
	}
	for what, f := range map[string]func() (api.Zone, api.Errno){
		"Reset": func() (api.Zone, api.Errno) { return Reset(z, 0, 0) }, "Free": func() (api.Zone, api.Errno) { return Free(z, 0) },
		"Copy": func() (api.Zone, api.Errno) { return Copy(z, 0, 0) }, "Before": func() (api.Zone, api.Errno) { return Before(z, 0, 0) },
	} {
		got, e := f()
		checkZone(t, got, e, api.Zone{}, api.ErrArg, what)
	}
	if p, e := Point(z); len(p) != 0 || e != api.OK {
		t.Errorf("Point: %v, %d", p, e)
	}
	if in, e := Includes(z, z); !in || e != api.OK {
		t.Errorf("Includes: %v, %d", in, e)
	}
}

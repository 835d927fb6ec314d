package federation

import (
	"slices"
	"testing"

	"foliot/api"
)

// P5.1
func TestCheckOfFederations(t *testing.T) {
	if e := Check(nil); e != api.OK {
		t.Errorf("Check of none: %d", e)
	}
	if e := Check([]api.Zone{}); e != api.OK {
		t.Errorf("Check of an empty list: %d", e)
	}
	if e := Check(spans("[0,5] (3,any) [7,7] [0,5]")); e != api.OK {
		t.Errorf("Check of intervals: %d", e)
	}
	for n := range api.MaxDim + 1 {
		for _, count := range []int{1, 2, api.MaxZones - 1, api.MaxZones} {
			if e := Check(times(count, all(n))); e != api.OK {
				t.Errorf("Check of %d zones of %d clocks: %d", count, n, e)
			}
		}
		if e := Check(times(api.MaxZones+1, all(n))); e != api.ErrLong {
			t.Errorf("Check of too many zones of %d clocks: %d", n, e)
		}
	}
}

// P5.1: a zone that is not valid, and zones of two dimensions, at any place.
func TestCheckOfOthers(t *testing.T) {
	for _, bad := range append(invalidZones(), all(0), all(2), all(api.MaxDim)) {
		for place := range 4 {
			l := slices.Insert(spans("[0,5] (3,any) [7,7]"), place, bad)
			if e := Check(l); e != api.ErrArg {
				t.Errorf("Check(%v): %d", l, e)
			}
		}
	}
	for _, bad := range invalidZones() {
		if e := Check([]api.Zone{bad}); e != api.ErrArg {
			t.Errorf("Check(%v): %d", bad, e)
		}
		for _, count := range []int{api.MaxZones - 1, api.MaxZones} {
			want := api.ErrArg
			if count == api.MaxZones {
				want = api.ErrLong
			}
			if e := Check(append(times(count, all(1)), bad)); e != want {
				t.Errorf("Check of %d zones and %v: %d", count, bad, e)
			}
		}
	}
}

// function is a function of one or two lists, with what it returns as a list or a bool.
type function struct {
	name string
	two  bool
	call func(a, b []api.Zone) ([]api.Zone, bool, api.Errno)
}

// functions returns all functions that return more than an error; Has is asked for the point p.
func functions(p []api.Ratio) []function {
	lists := func(l []api.Zone, e api.Errno) ([]api.Zone, bool, api.Errno) { return l, false, e }
	bools := func(in bool, e api.Errno) ([]api.Zone, bool, api.Errno) { return nil, in, e }
	return []function{
		{"Minus", true, func(a, b []api.Zone) ([]api.Zone, bool, api.Errno) { return lists(Minus(a, b)) }},
		{"Meet", true, func(a, b []api.Zone) ([]api.Zone, bool, api.Errno) { return lists(Meet(a, b)) }},
		{"Includes", true, func(a, b []api.Zone) ([]api.Zone, bool, api.Errno) { return bools(Includes(a, b)) }},
		{"Within", true, func(a, b []api.Zone) ([]api.Zone, bool, api.Errno) { return lists(Within(a, b)) }},
		{"Simplify", false, func(a, b []api.Zone) ([]api.Zone, bool, api.Errno) { return lists(Simplify(a)) }},
		{"Up", false, func(a, b []api.Zone) ([]api.Zone, bool, api.Errno) { return lists(Up(a)) }},
		{"Down", false, func(a, b []api.Zone) ([]api.Zone, bool, api.Errno) { return lists(Down(a)) }},
		{"Has", false, func(a, b []api.Zone) ([]api.Zone, bool, api.Errno) { return bools(Has(a, p)) }},
	}
}

// checkTold checks that functions of these lists return an error and nothing else.
func checkTold(t *testing.T, f function, a, b []api.Zone, want api.Errno) {
	t.Helper()
	if l, in, e := f.call(a, b); e != want || len(l) != 0 || in {
		t.Errorf("%s of %d and %d zones: %v, %v, %d; want %d", f.name, len(a), len(b), l, in, e, want)
	}
}

// P5.2 to P5.7: lists that are too long are told first, then those that are no federations.
func TestErrorsOfLists(t *testing.T) {
	good, long := spans("[0,5] [2,9]"), times(api.MaxZones+1, all(1))
	wrong := [][]api.Zone{{all(1), all(2)}, {all(2), all(1), all(1)}, {all(0), all(1)}}
	for _, z := range invalidZones() {
		wrong = append(wrong, []api.Zone{z}, []api.Zone{all(1), z}, []api.Zone{z, all(1)})
	}
	wrongAndLong := append(slices.Clone(long), all(2), api.Zone{})
	// In zone.Has this is ErrArg as well, in a federation that has a zone.
	for _, p := range [][]api.Ratio{{{Num: 1, Den: 1}}, nil, {{Num: -1, Den: 1}}} {
		for _, f := range functions(p) {
			checkTold(t, f, long, good, api.ErrLong)
			checkTold(t, f, long, nil, api.ErrLong)
			checkTold(t, f, wrongAndLong, good, api.ErrLong)
			for _, w := range wrong {
				checkTold(t, f, w, good, api.ErrArg)
				checkTold(t, f, w, nil, api.ErrArg)
				if f.two {
					checkTold(t, f, good, w, api.ErrArg)
					checkTold(t, f, nil, w, api.ErrArg)
					checkTold(t, f, w, w, api.ErrArg)
					checkTold(t, f, w, long, api.ErrLong)
					checkTold(t, f, long, w, api.ErrLong)
				}
			}
			if f.two {
				checkTold(t, f, good, long, api.ErrLong)
				checkTold(t, f, nil, long, api.ErrLong)
				checkTold(t, f, nil, wrongAndLong, api.ErrLong)
				checkTold(t, f, long, long, api.ErrLong)
			}
		}
	}
}

// P5.2 to P5.5 and P5.7: two lists have to fit; those without zones fit always.
func TestListsThatDoNotFit(t *testing.T) {
	for _, f := range functions(nil) {
		if !f.two {
			continue
		}
		for n := range api.MaxDim + 1 {
			for m := range api.MaxDim + 1 {
				want := api.OK
				if n != m {
					want = api.ErrArg
				}
				if _, _, e := f.call(times(2, all(n)), times(3, all(m))); e != want {
					t.Errorf("%s of %d and %d clocks: %d", f.name, n, m, e)
				}
			}
			for _, lists := range [][2][]api.Zone{{nil, times(2, all(n))}, {times(2, all(n)), {}}, {{}, nil}} {
				if _, _, e := f.call(lists[0], lists[1]); e != api.OK {
					t.Errorf("%s of %v: %d", f.name, lists, e)
				}
			}
		}
	}
}

// P5.2 to P5.7: of empty lists, and of the dimension 0, which has one valuation.
func TestSmallestLists(t *testing.T) {
	point := []api.Zone{all(0)}
	for _, f := range functions(nil) {
		for _, none := range [][]api.Zone{nil, {}} {
			l, in, e := f.call(none, none)
			checkList(t, l, e, nil, api.OK, f.name)
			if in != (f.name == "Includes") {
				t.Errorf("%s of no zones: %v", f.name, in)
			}
		}
		l, in, e := f.call(point, nil)
		if want := map[bool][]api.Zone{true: point}[f.name != "Meet" && f.name != "Includes" && f.name != "Has"]; !sameLists(l, want) || in != (f.name == "Includes" || f.name == "Has") || e != api.OK {
			t.Errorf("%s of the dimension 0, and nothing: %v, %v, %d", f.name, l, in, e)
		}
		if !f.two {
			continue
		}
		l, in, e = f.call(point, point)
		if want := map[bool][]api.Zone{true: point}[f.name == "Meet"]; !sameLists(l, want) || in != (f.name == "Includes") || e != api.OK {
			t.Errorf("%s of the dimension 0 twice: %v, %v, %d", f.name, l, in, e)
		}
	}
}

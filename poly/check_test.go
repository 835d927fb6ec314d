package poly

import (
	"testing"

	"foliot/api"
)

// P7.1: dimensions, lengths and numbers up to their limits, and beyond.
func TestCheck(t *testing.T) {
	for _, c := range []given{
		{0, nil}, {0, list()}, {0, list(most(-1), less(0), api.Line{A: []int64{}})}, {5, nil}, {5, list(most(0, 1, 2, 3, 4, 5))},
		{1, list(most(top, top), less(-top, -top))}, {1, list(most(0, 0))},
		{0, times(many, most(0))}, {5, times(many, less(-top, top, top, top, top, -top))},
	} {
		if e := Check(c.n, c.l); e != api.OK {
			t.Errorf("Check(%d, %d lines): %d", c.n, len(c.l), e)
		}
	}
	for want, l := range invalid() {
		for _, c := range l {
			if e := Check(c.n, c.l); e != want {
				t.Errorf("Check(%d, %d lines): %d, want %d", c.n, len(c.l), e, want)
			}
		}
	}
}

// P7.1: a line that is not valid is found wherever it stands.
func TestCheckLooksAtAllLines(t *testing.T) {
	for k := range many {
		for _, wrong := range []api.Line{most(0, 1), most(0, 1, top+1), most(top+1, 1, 1)} {
			l := times(many, less(1, 2, 3))
			l[k] = wrong
			if e := Check(2, l); e != api.ErrArg {
				t.Errorf("%v at the place %d: %d", wrong, k, e)
			}
		}
	}
}

// asks are the functions, each with one list and otherwise valid arguments for the dimension n.
func asks(n int) map[string]func(l []api.Line) (some bool, e api.Errno) {
	zeros := make([]int64, max(0, min(n, 9)))
	line, p := most(0, zeros...), at(zeros...)
	return map[string]func(l []api.Line) (bool, api.Errno){
		"Without": func(l []api.Line) (bool, api.Errno) { x, e := Without(n, l, 0); return len(x) > 0, e },
		"Empty":   func(l []api.Line) (bool, api.Errno) { return Empty(n, l) },
		"Implies": func(l []api.Line) (bool, api.Errno) { return Implies(n, l, line) },
		"Includes, first": func(l []api.Line) (bool, api.Errno) {
			return Includes(n, l, nil)
		},
		"Includes, second": func(l []api.Line) (bool, api.Errno) { return Includes(n, nil, l) },
		"Has":              func(l []api.Line) (bool, api.Errno) { return Has(n, l, p) },
		"Point":            func(l []api.Line) (bool, api.Errno) { x, e := Point(n, l); return len(x) > 0, e },
		"Minus, first":     func(l []api.Line) (bool, api.Errno) { x, e := Minus(n, l, nil); return len(x) > 0, e },
		"Minus, second":    func(l []api.Line) (bool, api.Errno) { x, e := Minus(n, nil, l); return len(x) > 0, e },
		"Least": func(l []api.Line) (bool, api.Errno) {
			low, attained, e := Least(n, l, zeros)
			return attained || low != (api.Ratio{}), e
		},
	}
}

// P7.1 to P7.8: all functions return the error of Check, with zero values.
func TestInvalidLists(t *testing.T) {
	for want, l := range invalid() {
		for _, c := range l {
			for name, ask := range asks(c.n) {
				if some, e := ask(c.l); some || e != want {
					t.Errorf("%s of %d lines of the dimension %d: %v, %d; want %d", name, len(c.l), c.n, some, e, want)
				}
			}
		}
	}
}

// P7.2 to P7.8: the error of Check comes before that of another argument.
func TestListsComeFirst(t *testing.T) {
	long := times(many+1, most(0, 1))
	if l, e := Without(1, long, 1); len(l) > 0 || e != api.ErrLong {
		t.Errorf("Without: %v, %d", l, e)
	}
	is, e := Implies(1, long, most(0))
	checkBool(t, is, e, false, api.ErrLong, "Implies")
	is, e = Has(1, long, nil)
	checkBool(t, is, e, false, api.ErrLong, "Has")
	checkLeast(t, 1, long, nil, api.Ratio{}, false, api.ErrLong)
}

// P7.4, P7.7: of two lists the first one that is not valid counts.
func TestListsInOrder(t *testing.T) {
	long, wrong := times(many+1, most(0, 1)), list(most(0))
	for _, c := range []struct {
		a, b []api.Line
		want api.Errno
	}{{long, wrong, api.ErrLong}, {wrong, long, api.ErrArg}, {nil, long, api.ErrLong}, {nil, wrong, api.ErrArg}, {long, nil, api.ErrLong}, {wrong, nil, api.ErrArg}} {
		is, e := Includes(1, c.a, c.b)
		checkBool(t, is, e, false, c.want, "Includes")
		parts, e := Minus(1, c.a, c.b)
		checkLists(t, parts, e, nil, c.want, "Minus")
	}
}

package dense_test

import (
	"math"
	"testing"

	"foliot/api"
	"foliot/code"
	"foliot/dense"
)

// P14.1: the state in which a net begins.
func TestInitial(t *testing.T) {
	for text, want := range map[string]string{
		example:                    "[0] [] [0]",
		inProcess("loc B; loc A;"): "[1] [0] [0 0]",
		withOther("loc A;", "loc B; loc C; loc A;"):                                             "[0 2] [0] [0 0]",
		inProcess("loc A inv x <= 0 && y <= 0;"):                                                "[0] [0] [0 0]",
		inProcess("loc A urgent inv x < 1;"):                                                    "[0] [0] [0 0]",
		"model m; process P init A { loc A; }":                                                  "[0] [] []",
		"model m; clock a, b, c, d, e, f, g, h; var v in 3..5 = 4; process P init A { loc A; }": "[0] [4] [0 0 0 0 0 0 0 0]",
	} {
		n := compiled(t, text)
		s, e := dense.Initial(n)
		checkText(t, text, answer(t, n, s, e), want)
	}
}

// P14.1: what is a state, and what is none.
func TestStates(t *testing.T) {
	n := compiled(t, withOther("loc A inv x <= 2 && y < 3; loc B inv y <= 2147; loc C;", "loc A; loc B inv x < 1;"))
	for _, c := range []struct {
		locs   []int
		clocks string
		isOne  bool
	}{
		{[]int{0, 0}, "0 0", true}, {[]int{0, 0}, "2 2", true}, {[]int{0, 0}, "2 5/2", true}, {[]int{0, 0}, "1/2147483647 2147483647/2147483646", true},
		{[]int{0, 0}, "2 3", false}, {[]int{0, 0}, "2 2147483647/715827882", false}, {[]int{0, 0}, "9/4 0", false}, {[]int{0, 0}, "2147483647/1073741823 0", false}, {[]int{0, 0}, "0 2147483647", false},
		{[]int{0, 0}, "2147483647/1073741824 0", true}, {[]int{0, 0}, "0 2147483645/715827882", true},
		{[]int{0, 1}, "1/2 0", true}, {[]int{0, 1}, "1 0", false}, {[]int{0, 1}, "1 2", false}, {[]int{0, 1}, "3/2 2", false}, {[]int{0, 1}, "1/2 3", false},
		{[]int{1, 0}, "2147483647 2147", true}, {[]int{1, 0}, "0 2148", false}, {[]int{1, 1}, "0 2147", true}, {[]int{1, 1}, "1 2147", false},
		{[]int{2, 0}, "2147483647 2147483647", true}, {[]int{2, 0}, "0 0", true}, {[]int{2, 1}, "1 0", false}, {[]int{2, 1}, "0 2147483647", true},
		{[]int{2, 0}, "-1 0", false}, {[]int{2, 0}, "0 -1/2147483647", false}, {[]int{2, 0}, "0 -2147483647", false},
		{[]int{2, 0}, "", false}, {[]int{2, 0}, "0", false}, {[]int{2, 0}, "0 0 0", false},
		{[]int{3, 0}, "0 0", false}, {[]int{-1, 0}, "0 0", false}, {[]int{2, 2}, "0 0", false}, {[]int{2}, "0 0", false}, {[]int{2, 0, 0}, "0 0", false}, {nil, "0 0", false}, {[]int{math.MaxInt, 0}, "0 0", false},
	} {
		s := api.Dense{D: api.Discrete{Locs: c.locs, Vars: []int64{0}}, Clocks: clocksOf(c.clocks)}
		if !c.isOne {
			checkRefused(t, stateText(s), n, s)
		} else if e := dense.Check(n, s); e != api.OK {
			t.Errorf("%s: Check is %d", stateText(s), e)
		}
	}
}

// P14.1 to P14.5: values of clocks that are no valid numbers, and values of variables that are not in their ranges.
func TestWrongValues(t *testing.T) {
	n := compiled(t, withOther("loc A inv x <= 2;", "loc A;"))
	for _, r := range wrong() {
		for k := range 2 {
			s := first(t, n)
			s.Clocks[k] = r
			checkRefused(t, plain(r), n, s)
		}
	}
	for _, value := range []int64{-1, 3, math.MaxInt64, math.MinInt64} {
		s := first(t, n)
		s.D.Vars[0] = value
		checkRefused(t, "a variable", n, s)
	}
	s := first(t, n)
	s.D.Vars = nil
	checkRefused(t, "no variable", n, s)
	checkRefused(t, "no state", n, api.Dense{})
}

// P14.1, rule R4: lists that are nil or empty.
func TestEmptyLists(t *testing.T) {
	n := compiled(t, "model m; process P init A { loc A; edge A -> A; }")
	for _, s := range []api.Dense{{D: api.Discrete{Locs: []int{0}}}, {D: api.Discrete{Locs: []int{0}, Vars: []int64{}}, Clocks: []api.Ratio{}}} {
		checkText(t, "Wait", wait(t, n, s, read("3/2")), "[0] [] []")
		checkMost(t, "no clocks", n, s, api.Ratio{}, false, true, api.OK)
		checkEnabled(t, "no clocks", n, s, 0)
		checkText(t, "Act", act(t, n, s, 0), "[0] [] []")
		checkText(t, "Run", run(t, n, s, []api.Step{}), "[0] [] [] 0")
		checkText(t, "Run", run(t, n, s, nil), "[0] [] [] 0")
	}
}

// P14.1 to P14.5, rule R1: nets that are not valid, also some that contain themselves.
func TestNetsThatAreNotValid(t *testing.T) {
	circle := api.Exp{Kind: api.ExNot, Args: make([]api.Exp, 1)}
	circle.Args[0] = circle
	short, _, _ := code.ParseExp("v < w")
	for k, spoil := range []func(n *api.Net){
		func(n *api.Net) { *n = api.Net{} }, func(n *api.Net) { n.Clocks = 9 }, func(n *api.Net) { n.Clocks = -1 }, func(n *api.Net) { n.Vars[0].Low = 1 },
		func(n *api.Net) { n.Procs[0].Edges[0].Guard[0].Clock = 3 }, func(n *api.Net) { n.Procs[0].Edges[0].Guard[0].Clock = 0 }, func(n *api.Net) { n.Procs[0].Edges[0].Resets[0].To = -1 },
		func(n *api.Net) { n.Procs[0].Locs[0].Inv[0].Clock = 3 }, func(n *api.Net) { n.Procs[0].Locs[0].Inv[0].Clock = 0 }, func(n *api.Net) { n.Procs[0].Locs[0].Inv[0].Lower = true },
		func(n *api.Net) { n.Procs[0].Locs[0].Inv[0].C = -1 }, func(n *api.Net) { n.Procs[0].Locs[0].Inv[0].C = 1<<20 + 1 }, func(n *api.Net) { n.Procs[0].Edges[0].To = 7 },
		func(n *api.Net) { n.Procs[0].Edges[0].Cond = circle }, func(n *api.Net) { n.Procs[0].Edges[0].Cond = short }, func(n *api.Net) { n.Procs = nil },
	} {
		n := compiled(t, inProcess("loc A inv x <= 2; edge A -> A when x > 1 reset y = 1;"))
		s := first(t, n)
		spoil(&n)
		checkRefused(t, plain(k), n, s)
		if s, e := dense.Initial(n); e != api.ErrArg || !same(s, api.Dense{}) {
			t.Errorf("%d: Initial is %s, %d", k, plain(s), e)
		}
	}
	checkRefused(t, "no net", api.Net{}, api.Dense{})
}

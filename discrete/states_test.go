package discrete_test

import (
	"math"
	"testing"

	"foliot/api"
	"foliot/discrete"
)

// P13.1: the state in which a net begins.
func TestInitial(t *testing.T) {
	for text, want := range map[string]api.Discrete{
		inProcess("loc A;"):                         state([]int{0}, 0, 1),
		"model m; process P init A { loc A; }":      state([]int{0}),
		inProcess("loc B; loc A; loc C;"):           state([]int{1}, 0, 1),
		withOther("loc C; loc B; loc A;", "loc B;"): state([]int{2, 0}, 0, 1),
		"model m; var v in -2147483648..2147483648 = 2147483648; var w in -2147483648..2147483648 = -2147483648; process P init A { loc A; }": state([]int{0}, 1<<31, -1<<31),
	} {
		n := compiled(t, text)
		if d := first(t, n); plain(d) != plain(want) {
			t.Errorf("%s: Initial is %+v, want %+v", text, d, want)
		}
		if e := discrete.Check(n, want); e != api.OK {
			t.Errorf("%s: Check is %d", text, e)
		}
	}
}

// P13.1: lists that are nil or empty (rule R4).
func TestEmptyLists(t *testing.T) {
	n := compiled(t, "model m; process P init A { loc A; edge A -> A; }")
	for _, vars := range [][]int64{nil, {}} {
		d := state([]int{0}, vars...)
		if e := discrete.Check(n, d); e != api.OK {
			t.Errorf("Check with %#v is %d", vars, e)
		}
		checkActs(t, "a loop", n, d, "P0")
	}
	edge := &n.Procs[0].Edges[0]
	edge.Guard, edge.Sets, edge.Resets, edge.Cond.Args = []api.Con{}, []api.NSet{}, []api.Reset{}, []api.Exp{}
	n.Vars, n.Chans, n.Funcs, n.Procs[0].Locs[0].Inv = []api.Var{}, []api.Chan{}, []api.Func{}, []api.Con{}
	checkActs(t, "a loop with empty lists", n, first(t, n), "P0")
}

// P13.1 to P13.3: what is a discrete state, and what is none.
func TestStates(t *testing.T) {
	n := compiled(t, withOther("loc A; loc B; loc C;", "loc B;"))
	for _, c := range []struct {
		d     api.Discrete
		isOne bool
	}{
		{state([]int{0, 0}, 0, 0), true}, {state([]int{2, 1}, 2, 5), true}, {state([]int{1, 0}, 1, -5), true},
		{state([]int{3, 0}, 0, 0), false}, {state([]int{-1, 0}, 0, 0), false}, {state([]int{0, 2}, 0, 0), false}, {state([]int{0, -1}, 0, 0), false},
		{state([]int{math.MaxInt, 0}, 0, 0), false}, {state([]int{math.MinInt, 0}, 0, 0), false},
		{state([]int{0, 0}, 3, 0), false}, {state([]int{0, 0}, -1, 0), false}, {state([]int{0, 0}, 0, 6), false}, {state([]int{0, 0}, 0, -6), false},
		{state([]int{0, 0}, math.MaxInt64, 0), false}, {state([]int{0, 0}, 0, math.MinInt64), false}, {state([]int{0, 0}, 1<<32, 0), false},
		{state(nil, 0, 0), false}, {state([]int{0}, 0, 0), false}, {state([]int{0, 0, 0}, 0, 0), false},
		{state([]int{0, 0}), false}, {state([]int{0, 0}, 0), false}, {state([]int{0, 0}, 0, 0, 0), false}, {api.Discrete{}, false},
	} {
		if !c.isOne {
			checkRefused(t, plain(c.d), n, c.d)
			continue
		}
		if e := discrete.Check(n, c.d); e != api.OK {
			t.Errorf("%+v: Check is %d", c.d, e)
		}
	}
}

// P13.1 to P13.5, rule R1: nets that are not valid, also some that contain themselves.
func TestNetsThatAreNotValid(t *testing.T) {
	circle := api.Exp{Kind: api.ExNot, Args: make([]api.Exp, 1)}
	circle.Args[0] = circle
	for k, spoil := range []func(n *api.Net){
		func(n *api.Net) { *n = api.Net{} }, func(n *api.Net) { n.Clocks = 9 }, func(n *api.Net) { n.Vars[0].Low = 1 }, func(n *api.Net) { n.Vars[1].Name = "v" },
		func(n *api.Net) { n.Procs[0].Edges[0].To = 2 }, func(n *api.Net) { n.Procs[0].Edges[0].Chan = -2 }, func(n *api.Net) { n.Procs[0].Edges[0].Cond = circle },
		func(n *api.Net) { n.Procs[2].Edges[1].Sets[0].Val = circle }, func(n *api.Net) { n.Procs[2].Edges[1].Sets[0].Val = expOf("f()") }, func(n *api.Net) { n.Procs[1].Init = 2 },
	} {
		n := compiled(t, example)
		d := first(t, n)
		spoil(&n)
		checkNoNet(t, plain(k), n, d)
	}
	checkNoNet(t, "no net", api.Net{}, api.Discrete{})
}

// P13.3: the invariants and the rates of all locations of a state.
func TestInvariantAndRate(t *testing.T) {
	n := compiled(t, example)
	for _, c := range []struct {
		locs []int
		inv  []api.Con
		rate int64
	}{
		{[]int{0, 0, 0}, []api.Con{{Clock: 1, C: 9}, {Clock: 2, Strict: true, C: 8}, {Clock: 1, Strict: true, C: 7}}, 217},
		{[]int{1, 0, 0}, []api.Con{{Clock: 1, Strict: true, C: 7}}, 207},
		{[]int{0, 1, 1}, []api.Con{{Clock: 1, C: 9}, {Clock: 2, Strict: true, C: 8}}, 10},
		{[]int{1, 1, 0}, nil, 7},
		{[]int{1, 1, 1}, nil, 0},
	} {
		d := state(c.locs, 0, 0)
		if l, e := discrete.Invariant(n, d); e != api.OK || plain(l) != plain(c.inv) {
			t.Errorf("Invariant in %v is %v, %d; want %v", c.locs, l, e, c.inv)
		}
		if r, e := discrete.Rate(n, d); e != api.OK || r != c.rate {
			t.Errorf("Rate in %v is %d, %d; want %d", c.locs, r, e, c.rate)
		}
	}
}

// P13.3: the greatest sums.
func TestGreatestSums(t *testing.T) {
	text := "model m; clock x; "
	for k := range 6 {
		text += "process P" + string(rune('0'+k)) + " init A { loc A inv x <= 1"
		for range 15 {
			text += " && x <= 1"
		}
		text += " rate 1000; }"
	}
	n := compiled(t, text)
	d := first(t, n)
	if l, e := discrete.Invariant(n, d); e != api.OK || len(l) != 96 {
		t.Errorf("%d invariants, %d", len(l), e)
	}
	if r, e := discrete.Rate(n, d); e != api.OK || r != 6000 {
		t.Errorf("the rate %d, %d", r, e)
	}
}

// P13.3: time stands still in urgent and committed locations, and where something can be sent on an urgent channel.
func TestStill(t *testing.T) {
	for text, want := range map[string]bool{
		inProcess("loc A;"):                                                            false,
		inProcess("loc A urgent;"):                                                     true,
		inProcess("loc A committed;"):                                                  true,
		inProcess("loc A; loc B urgent; loc C committed;"):                             false,
		withOther("loc A;", "loc B urgent;"):                                           false,
		inProcess("loc B; loc A urgent;"):                                              true,
		inProcess("loc A;") + "process Q init B { loc A; loc B urgent; }":              true,
		inProcess("loc A; edge A -> A;"):                                               false,
		inProcess("loc A; edge A -> A sync u!;"):                                       false,
		inProcess("loc A; edge A -> A sync u?;"):                                       false,
		inProcess("loc A; edge A -> A sync u!; edge A -> A sync u?;"):                  false,
		withOther("loc A; edge A -> A sync u!;", "edge A -> A sync u?;"):               true,
		withOther("loc A; edge A -> A sync u?;", "edge A -> A sync u!;"):               true,
		withOther("loc A; edge A -> A sync u!;", "edge A -> A sync u!;"):               false,
		withOther("loc A; edge A -> A sync u!;", "edge A -> A sync g?;"):               false,
		withOther("loc A; edge A -> A sync a!;", "edge A -> A sync a?;"):               false,
		withOther("loc A; edge A -> A sync b!;", "edge A -> A sync b?;"):               false,
		withOther("loc A; edge A -> A sync g!;", "edge A -> A sync g?;"):               true,
		withOther("loc A; edge A -> A sync g?;", "edge A -> A sync g?;"):               false,
		inProcess("loc A; edge A -> A sync g!;"):                                       true,
		inProcess("loc A; edge A -> A sync g?;"):                                       false,
		inProcess("loc A; edge A -> A if v sync g!;"):                                  false,
		inProcess("loc A; edge A -> A if !v sync g!;"):                                 true,
		inProcess("loc A; edge A -> A if f(1) sync g!;"):                               false,
		inProcess("loc A; loc B; edge B -> A sync g!;"):                                false,
		inProcess("loc A; edge A -> A sync g! do v = 3;"):                              true,
		inProcess("loc A; edge A -> A sync g! do v = 1 / v;"):                          true,
		inProcess("loc A; edge A -> A; edge A -> A sync g!;"):                          true,
		withOther("loc A; edge A -> A if v sync u!;", "edge A -> A sync u?;"):          false,
		withOther("loc A; edge A -> A sync u!;", "edge A -> A if v sync u?;"):          false,
		withOther("loc A; edge A -> A sync u!;", "edge A -> A if 1 / v sync u?;"):      false,
		withOther("loc A; edge A -> A sync u!;", "edge A -> A if w sync u?;"):          true,
		withOther("loc A; edge A -> A sync u!;", "loc B; edge B -> A sync u?;"):        false,
		withOther("loc A; edge A -> A sync u!;", "edge A -> A sync u? do v = -1;"):     true,
		withOther("loc A; edge A -> A sync u! do v = w;", "edge A -> A if v sync u?;"): false,
	} {
		n := compiled(t, text)
		if still, e := discrete.Still(n, first(t, n)); e != api.OK || still != want {
			t.Errorf("%s: Still is %v, %d", text[len(head):], still, e)
		}
	}
}

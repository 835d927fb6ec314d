package discrete_test

import (
	"testing"

	"foliot/api"
	"foliot/discrete"
)

// checkFlat checks a flat automaton and the states of its locations.
func checkFlat(t *testing.T, what string, n api.Net, want api.Flat, states []api.Discrete) {
	t.Helper()
	f, l, e := discrete.Flat(n)
	if e != api.OK || plain(f) != plain(want) {
		t.Errorf("%.600s: Flat is %s, %d; want %s", what, plain(f), e, plain(want))
	}
	if plain(l) != plain(states) {
		t.Errorf("%.600s: the states of Flat are %+v, want %+v", what, l, states)
	}
	if l, e := discrete.Reach(n, max(1, len(states))); e != api.OK || plain(l) != plain(states) {
		t.Errorf("%.600s: Reach is %+v, %d; want %+v", what, l, e, states)
	}
}

// P13.4, P13.5: the flat automaton of the example.
func TestFlatExample(t *testing.T) {
	n := compiled(t, example)
	inv := func(clock int, strict bool, c int64) api.Con { return api.Con{Clock: clock, Strict: strict, C: c} }
	low := func(clock int, strict bool, c int64) api.Con {
		return api.Con{Clock: clock, Lower: true, Strict: strict, C: c}
	}
	sent := []api.Con{low(1, true, 1), inv(2, false, 2)}
	want := api.Flat{
		Clocks: 2,
		Locs: []api.FLoc{
			{Inv: []api.Con{inv(1, false, 9), inv(2, true, 8), inv(1, true, 7)}, Rate: 217},
			{Rate: 7}, {Inv: []api.Con{inv(1, true, 7)}, Rate: 200},
			{Inv: []api.Con{inv(1, false, 9), inv(2, true, 8), inv(1, true, 7)}, Rate: 217},
		},
		Edges: []api.FEdge{
			{From: 0, To: 1, Guard: append(sent[:2:2], inv(2, true, 6), low(1, false, 4)), Resets: []api.Reset{{Clock: 1, To: 3}, {Clock: 2, To: 4}, {Clock: 1, To: 5}}, Act: 1, Kind: 1, Cost: 25},
			{From: 0, To: 2, Guard: append(sent[:2:2], low(2, false, 5)), Resets: []api.Reset{{Clock: 1, To: 3}, {Clock: 2, To: 4}}, Act: 1, Cost: 5},
			{From: 0, To: 3, Guard: []api.Con{low(1, false, 3)}, Resets: []api.Reset{{Clock: 2, To: 1}, {Clock: 2, To: 2}, {Clock: 1, To: 6}, {Clock: 1}}, Act: 3, Kind: 1, Cost: 409},
		},
	}
	checkFlat(t, "the example", n, want, []api.Discrete{state([]int{0, 0, 0}, 0, 1), state([]int{1, 1, 0}, 1, 1), state([]int{1, 0, 1}, 1, 1), state([]int{0, 0, 0}, 2, 1)})
}

// P13.4, P13.5: the order of a breadth-first search; edges back, loops and equal edges.
func TestFlatOrder(t *testing.T) {
	n := compiled(t, `model m; clock x; chan c, a; process P init C { loc A; loc B rate 4; loc C; loc D; loc E;
		edge C -> B; edge A -> E sync a! kind 1; edge C -> A reset x = 2; edge B -> D when x < 3; edge E -> C; edge A -> A; edge D -> B cost 8; edge A -> D; edge A -> D; }
		process Q init A { loc A; edge A -> A sync a?; }`)
	want := api.Flat{
		Clocks: 1, Locs: []api.FLoc{{}, {Rate: 4}, {}, {}, {}},
		Edges: []api.FEdge{
			{From: 0, To: 1}, {From: 0, To: 2, Resets: []api.Reset{{Clock: 1, To: 2}}}, {From: 1, To: 3, Guard: []api.Con{{Clock: 1, Strict: true, C: 3}}},
			{From: 2, To: 4, Act: 2, Kind: 1}, {From: 2, To: 2}, {From: 2, To: 3}, {From: 2, To: 3}, {From: 3, To: 1, Cost: 8}, {From: 4, To: 0},
		},
	}
	checkFlat(t, "five locations", n, want, []api.Discrete{state([]int{2, 0}), state([]int{1, 0}), state([]int{0, 0}), state([]int{3, 0}), state([]int{4, 0})})
}

// P13.5: guards do not matter; locations are urgent where time stands still; actions have the numbers of their channels.
func TestFlatDetails(t *testing.T) {
	n := compiled(t, head+`process P init A { loc A; loc B urgent; loc C committed; loc D;
		edge A -> B when x < 0; edge A -> C if v; edge B -> C when x > 5 && x < 5 sync b!; edge C -> D sync g!; edge D -> D sync u!; edge D -> A sync a! do v = 0; edge D -> D sync c!; }
		process Q init A { loc A inv x <= 4; loc B; edge A -> A sync c?; edge A -> B sync u?; edge B -> B sync a?; edge B -> B sync c?; }`)
	bound := []api.Con{{Clock: 1, C: 4}}
	want := api.Flat{
		Clocks: 2, Locs: []api.FLoc{{Inv: bound}, {Inv: bound, Urgent: true}, {Inv: bound, Urgent: true}, {Inv: bound, Urgent: true}, {}, {}, {Urgent: true}, {Urgent: true}},
		Edges: []api.FEdge{
			{From: 0, To: 1, Guard: []api.Con{{Clock: 1, Strict: true}}}, {From: 1, To: 2, Guard: []api.Con{{Clock: 1, Lower: true, Strict: true, C: 5}, {Clock: 1, Strict: true, C: 5}}, Act: 3},
			{From: 2, To: 3, Act: 5}, {From: 3, To: 4, Act: 4}, {From: 3, To: 3, Act: 2}, {From: 4, To: 5, Act: 1}, {From: 4, To: 4, Act: 2},
			{From: 5, To: 6, Guard: []api.Con{{Clock: 1, Strict: true}}}, {From: 6, To: 7, Guard: []api.Con{{Clock: 1, Lower: true, Strict: true, C: 5}, {Clock: 1, Strict: true, C: 5}}, Act: 3}, {From: 7, To: 4, Act: 5},
		},
	}
	var states []api.Discrete
	for k := range 8 {
		states = append(states, state([]int{k % 4, k / 4}, 0, 1))
	}
	states[4], states[5], states[6], states[7] = states[7], states[4], states[5], states[6]
	checkFlat(t, "urgent locations", n, want, states)
}

// P13.4: states differ if any location or value does.
func TestStatesDiffer(t *testing.T) {
	n := compiled(t, "model m; var v in -11..11 = 1; var w in -11..11 = 11; process P init A { loc A; loc B; edge A -> A do v = 11, w = 1; edge A -> A do v = -1, w = 11; edge A -> A do v = 1, w = -11; edge A -> B; edge B -> A do v = 1, w = 11; edge A -> A do v = 1, w = 11; } process Q init A { loc A; loc B; edge A -> B; edge B -> A; }")
	l, e := discrete.Reach(n, 100)
	if e != api.OK || len(l) != 16 {
		t.Errorf("%d states, %d", len(l), e)
	}
	for k, d := range l {
		for _, x := range l[:k] {
			if plain(x) == plain(d) {
				t.Errorf("%+v stands there twice", d)
			}
		}
	}
}

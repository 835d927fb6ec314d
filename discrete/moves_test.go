package discrete_test

import (
	"testing"

	"foliot/api"
)

// P13.2: the chapter's examples.
func TestExample(t *testing.T) {
	n := compiled(t, example)
	con := func(clock int, lower, strict bool, c int64) api.Con {
		return api.Con{Clock: clock, Lower: lower, Strict: strict, C: c}
	}
	withQ := api.Move{
		Acts: [][2]int{{0, 0}, {1, 0}}, Next: state([]int{1, 1, 0}, 1, 1),
		Guards: []api.Con{con(1, true, true, 1), con(2, false, false, 2), con(2, false, true, 6), con(1, true, false, 4)},
		Resets: []api.Reset{{Clock: 1, To: 3}, {Clock: 2, To: 4}, {Clock: 1, To: 5}}, Cost: 25, Kind: 1,
	}
	withR := api.Move{
		Acts: [][2]int{{0, 0}, {2, 0}}, Next: state([]int{1, 0, 1}, 1, 1),
		Guards: []api.Con{con(1, true, true, 1), con(2, false, false, 2), con(2, true, false, 5)},
		Resets: []api.Reset{{Clock: 1, To: 3}, {Clock: 2, To: 4}}, Cost: 5,
	}
	withBoth := api.Move{
		Acts: [][2]int{{0, 1}, {1, 1}, {2, 1}}, Next: state([]int{0, 0, 0}, 2, 1), Guards: []api.Con{con(1, true, false, 3)},
		Resets: []api.Reset{{Clock: 2, To: 1}, {Clock: 2, To: 2}, {Clock: 1, To: 6}, {Clock: 1}}, Cost: 409, Kind: 1,
	}
	d := first(t, n)
	checkMoves(t, "the example", n, d, []api.Move{withQ, withR, withBoth})
	n.Procs[1].Locs[0].Kind = api.LocCommitted
	checkMoves(t, "Q is committed", n, d, []api.Move{withQ, withBoth})
	n.Procs[1].Locs[0].Kind = api.LocPlain
	d.Vars[0] = 1
	withQ.Next.Vars[0], withR.Next.Vars[0] = 2, 2
	checkMoves(t, "with v = 1", n, d, []api.Move{withQ, withR})
	d.Vars[0] = 2
	checkMoves(t, "with v = 2", n, d, nil)
	n.Procs[0].Locs[0].Kind = api.LocUrgent
	withBoth.Next.Vars = []int64{2, 0}
	for _, p := range n.Procs[1:] {
		p.Edges[1].Sets = []api.NSet{{Var: 1, Val: expOf("w - 1")}}
	}
	withBoth.Next.Vars[1] = -1
	checkMoves(t, "without the sets of v", n, d, []api.Move{withBoth})
}

// P13.2: which edges are open.
func TestOpenEdges(t *testing.T) {
	checkFirst(t, inProcess("loc A;"), "")
	checkFirst(t, inProcess("loc A; edge A -> A;"), "P0")
	checkFirst(t, inProcess("loc A; loc B; edge B -> A; edge A -> B; edge B -> B; edge A -> A;"), "P1 P3")
	checkFirst(t, inProcess("loc B; loc A; edge B -> A; edge A -> B; edge B -> B; edge A -> A;"), "P1 P3")
	checkFirst(t, inProcess("loc A; edge A -> A if 0; edge A -> A if 1; edge A -> A if -1; edge A -> A if 2;"), "P1 P2 P3")
	checkFirst(t, inProcess("loc A; edge A -> A if v; edge A -> A if w; edge A -> A if !v; edge A -> A if v == w; edge A -> A if v < w;"), "P1 P2 P4")
	checkFirst(t, inProcess("loc A; edge A -> A if 1 / v; edge A -> A if f(1); edge A -> A if f(w) || 1; edge A -> A if w || f(1); edge A -> A if 2147483648 * 2;"), "P3")
	checkFirst(t, head+"func h() { while (1) { } return 1; } process P init A { loc A; edge A -> A if h(); edge A -> A if w || h(); }", "P1")
	checkFirst(t, withOther("loc A; edge A -> A sync a!; edge A -> A sync a?;", ""), "")
	checkFirst(t, withOther("loc A; edge A -> A sync b!; edge A -> A sync b?;", ""), "P0")
	n := compiled(t, inProcess("loc A; loc B; edge A -> A if v == 1; edge B -> A if w == -5; edge A -> B if v + w == 1; edge B -> B if w > v;"))
	checkActs(t, "by values", n, state([]int{0}, 1, 0), "P0 P2")
	checkActs(t, "by values", n, state([]int{0}, 2, -1), "P2")
	checkActs(t, "by values", n, state([]int{0}, 0, 0), "")
	checkActs(t, "by values", n, state([]int{1}, 0, -5), "P1")
	checkActs(t, "by values", n, state([]int{1}, 2, 3), "P3")
}

// P13.2: who sends and receives together, in order.
func TestChannels(t *testing.T) {
	checkFirst(t, withOther("loc A; edge A -> A sync a!;", "edge A -> A sync a?;"), "P0Q0")
	checkFirst(t, withOther("loc A; edge A -> A sync a?;", "edge A -> A sync a!;"), "Q0P0")
	checkFirst(t, withOther("loc A; edge A -> A sync a!;", "edge A -> A sync c?;"), "")
	checkFirst(t, withOther("loc A; edge A -> A sync a!;", "edge A -> A sync a!;"), "")
	checkFirst(t, withOther("loc A; edge A -> A sync a?;", "edge A -> A sync a?;"), "")
	checkFirst(t, withOther("loc A; edge A -> A sync b?;", "edge A -> A sync b?;"), "")
	checkFirst(t, withOther("loc A; edge A -> A sync u!;", "edge A -> A sync u?;"), "P0Q0")
	checkFirst(t, withOther("loc A; edge A -> A sync g!;", "edge A -> A sync g?;"), "P0Q0")
	checkFirst(t, withOther("loc A; edge A -> A sync b!;", "edge A -> A sync g?;"), "P0")
	checkFirst(t, withOther("loc A; edge A -> A sync b!;", "edge A -> A sync b!;"), "P0 Q0")
	checkFirst(t, withOther("loc A; edge A -> A sync b!;", "edge A -> A if v sync b?; edge A -> A if 1 / v sync b?;"), "P0")
	checkFirst(t, withOther("loc A; edge A -> A sync b!;", "edge A -> A if v sync b?; edge A -> A sync b?;"), "P0Q1")
	checkFirst(t, withOther("loc A; edge A -> A sync a!;", "edge A -> A if v sync a?; edge A -> A sync a?;"), "P0Q1")
	checkFirst(t, withOther("loc A; edge A -> A sync b!;", "loc B; edge B -> A sync b?;"), "P0")
	checkFirst(t, withOther("loc A; edge A -> A sync a!; edge A -> A sync b!; edge A -> A; edge A -> A sync a!;", "edge A -> A sync b?; edge A -> A sync a?; edge A -> A; edge A -> A sync a?;"),
		"P0Q1 P0Q3 P1Q0 P2 P3Q1 P3Q3 Q2")
	r := " process R init A { loc A; edge A -> A sync a?; edge A -> A sync b?; edge A -> A sync b?; edge A -> A sync c!; }"
	checkFirst(t, withOther("loc A; edge A -> A sync b!; edge A -> A sync a!; edge A -> A sync c?;", "edge A -> A sync b?; edge A -> A sync b?; edge A -> A sync a?; edge A -> A sync c?;")+r,
		"P0Q0R1 P0Q0R2 P0Q1R1 P0Q1R2 P1Q2 P1R0 R3P2 R3Q3")
	checkFirst(t, withOther("loc A; edge A -> A sync b?; edge A -> A sync b?;", "edge A -> A sync b!;")+r, "Q0P0R1 Q0P0R2 Q0P1R1 Q0P1R2")
	checkFirst(t, withOther("loc A; edge A -> A sync b?; edge A -> A sync b?;", "")+" process R init A { loc A; edge A -> A sync b?; edge A -> A sync b!; }", "R1P0 R1P1")
	checkFirst(t, withOther("loc A; edge A -> A sync b!;", "")+r, "P0R1 P0R2")
}

// P13.2: updates are made one after the other, with the values of then, and conditions are evaluated before all of them.
func TestUpdates(t *testing.T) {
	for _, c := range []struct {
		text, acts string
		values     [][]int64 // behind each move
	}{
		{inProcess("loc A; edge A -> A do v = 1, w = v, v = w + 1, w = w - v; edge A -> A do w = v, v = w;"), "P0 P1", [][]int64{{2, -1}, {0, 0}}},
		{inProcess("loc A; edge A -> A do v = 3; edge A -> A do v = -1; edge A -> A do v = 2; edge A -> A do w = 6; edge A -> A do w = 5; edge A -> A do w = -5; edge A -> A do w = -6;"),
			"P2 P4 P5", [][]int64{{2, 1}, {0, 5}, {0, -5}}},
		{inProcess("loc A; edge A -> A do v = 3, v = 0; edge A -> A do v = v + 1, v = v + 1; edge A -> A do w = 1, v = v - 1, v = 1;"), "P1", [][]int64{{2, 1}}},
		{inProcess("loc A; edge A -> A do w = 1 / v; edge A -> A do v = 1, w = 4 / v; edge A -> A do w = f(4); edge A -> A do v = 2, w = f(4); edge A -> A do w = 2147483648 * 2 * 0;"),
			"P1 P3", [][]int64{{1, 4}, {2, 2}}},
		{withOther("loc A; edge A -> A sync a! do v = v + 1, w = v;", "edge A -> A if v == 0 sync a? do v = v * 2, w = w + v; edge A -> A if v == 1 sync a?;"), "P0Q0", [][]int64{{2, 3}}},
		{withOther("loc A; edge A -> A if v == 0 sync a? do v = v * 2, w = w + v;", "edge A -> A sync a! do v = v + 1, w = v;"), "Q0P0", [][]int64{{2, 3}}},
		{withOther("loc A; edge A -> A sync b! do v = 2;", "edge A -> A sync b? do v = v + 1; edge A -> A sync b? do w = v;"), "P0Q1", [][]int64{{2, 2}}},
		{withOther("loc A; edge A -> A sync b! do v = 3;", "edge A -> A sync b? do v = v - 1;"), "", nil},
		{withOther("loc A; edge A -> A sync b!;", "edge A -> A sync b? do v = 3;"), "", nil},
		{withOther("loc A; edge A -> A sync b? do w = w * 2;", "edge A -> A sync b? do w = w + 1;") + " process R init A { loc A; edge A -> A sync b! do w = 2; }", "R0P0Q0", [][]int64{{0, 5}}},
		{withOther("loc A; edge A -> A sync b? do w = w * 2;", "edge A -> A sync b! do w = 2;") + " process R init A { loc A; edge A -> A sync b? do w = w + 1; }", "Q0P0R0", [][]int64{{0, 5}}},
	} {
		n := compiled(t, c.text)
		d := first(t, n)
		checkActs(t, c.text[len(head):], n, d, c.acts)
		for k, m := range movesOf(t, n, d) {
			if plain(m.Next.Vars) != plain(c.values[k]) {
				t.Errorf("%s: behind the move %d there is %v, want %v", c.text[len(head):], k, m.Next.Vars, c.values[k])
			}
		}
	}
}

// P13.2: the ends of the greatest ranges.
func TestGreatestRanges(t *testing.T) {
	n := compiled(t, "model m; var v in -2147483648..2147483648 = 2147483647; process P init A { loc A; edge A -> A do v = v + 1; edge A -> A do v = -v - 1; edge A -> A do v = v + 2; edge A -> A do v = -v - 2; }")
	var values []int64
	for _, m := range movesOf(t, n, first(t, n)) {
		values = append(values, m.Next.Vars[0])
	}
	if plain(values) != plain([]int64{1 << 31, -1 << 31}) {
		t.Errorf("the values are %v", values)
	}
}

// P13.2: the locations behind moves.
func TestLocationsBehind(t *testing.T) {
	n := compiled(t, head+`process P init B { loc A; loc B; loc C; edge B -> C sync b!; edge B -> A; edge B -> B; edge B -> C sync a!; }
		process Q init A { loc A; loc B; edge A -> B sync b?; edge A -> A sync a?; }
		process R init C { loc A; loc B; loc C; edge C -> B sync b?; edge C -> A sync a?; }`)
	var got [][]int
	for _, m := range movesOf(t, n, first(t, n)) {
		got = append(got, m.Next.Locs)
	}
	if want := [][]int{{2, 1, 1}, {0, 0, 2}, {1, 0, 2}, {2, 0, 2}, {2, 0, 0}}; plain(got) != plain(want) {
		t.Errorf("the locations are %v, want %v", got, want)
	}
}

// P13.2: kinds and costs of the edges that act together.
func TestKindsAndCosts(t *testing.T) {
	for text, want := range map[string][2]int64{
		withOther("loc A; edge A -> A sync a!;", "edge A -> A sync a?;"):                                                                                   {0, 0},
		withOther("loc A; edge A -> A sync a! cost 1000 kind 1;", "edge A -> A sync a? cost 1;"):                                                           {1001, 1},
		withOther("loc A; edge A -> A sync a! cost 3;", "edge A -> A sync a? cost 1000 kind 1;"):                                                           {1003, 1},
		withOther("loc A; edge A -> A sync b! kind 1;", "edge A -> A sync b? kind 1;"):                                                                     {0, 1},
		withOther("loc A; edge A -> A cost 2 kind 1;", "edge A -> A sync b? cost 7;"):                                                                      {2, 1},
		withOther("loc A; edge A -> A sync b! cost 2;", "edge A -> A sync a? cost 7 kind 1;"):                                                              {2, 0},
		withOther("loc A; edge A -> A sync b? cost 4;", "edge A -> A sync b? cost 7;") + " process R init A { loc A; edge A -> A sync b! cost 2; }":        {13, 0},
		withOther("loc A; edge A -> A sync b? cost 4;", "edge A -> A sync b? cost 7 kind 1;") + " process R init A { loc A; edge A -> A sync b! cost 2; }": {13, 1},
	} {
		n := compiled(t, text)
		l := movesOf(t, n, first(t, n))
		if len(l) != 1 || l[0].Cost != want[0] || l[0].Kind != int(want[1]) {
			t.Errorf("%s: %+v, want the cost and the kind %v", text[len(head):], l, want)
		}
	}
}

// P13.2: if a process is in a committed location, such a process acts.
func TestCommitted(t *testing.T) {
	checkFirst(t, withOther("loc A committed; edge A -> A;", "edge A -> A;"), "P0")
	checkFirst(t, withOther("loc A urgent; edge A -> A;", "edge A -> A;"), "P0 Q0")
	checkFirst(t, withOther("loc A committed;", "edge A -> A;"), "")
	checkFirst(t, withOther("loc A; loc B committed; edge A -> A; edge A -> B;", "edge A -> A;"), "P0 P1 Q0")
	checkFirst(t, withOther("loc A committed; edge A -> A sync a?;", "edge A -> A sync a!; edge A -> A;"), "Q0P0")
	checkFirst(t, withOther("loc A committed; edge A -> A sync a!;", "edge A -> A sync a?; edge A -> A;"), "P0Q0")
	q := "process Q init A { loc A committed; edge A -> A; edge A -> A sync b?; edge A -> A sync a?; }"
	r := "process R init A { loc A; edge A -> A; edge A -> A sync b!; edge A -> A sync a!; }"
	checkFirst(t, inProcess("loc A; edge A -> A; edge A -> A sync b?; edge A -> A sync a?;")+q+r, "Q0 R1P1Q1 R2Q2")
	checkFirst(t, inProcess("loc A committed; edge A -> A; edge A -> A if v sync b?; edge A -> A sync a?;")+q+r, "P0 Q0 R1Q1 R2P2 R2Q2")
	checkFirst(t, inProcess("loc A committed; edge A -> A if v;")+"process Q init A { loc A; edge A -> A; }"+r, "")
	checkFirst(t, inProcess("loc A committed; edge A -> A do v = 3;")+"process Q init A { loc A; edge A -> A; }", "")
}

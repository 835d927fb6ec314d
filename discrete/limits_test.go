package discrete_test

import (
	"fmt"
	"strings"
	"testing"

	"foliot/api"
	"foliot/discrete"
)

// process returns a process with edges of the location A, so many of each text.
func process(name, loc string, edges ...any) string {
	text := "process " + name + " init A { loc A " + loc + "; loc B; "
	for k := 0; k < len(edges); k += 2 {
		text += strings.Repeat("edge "+edges[k].(string)+"; ", edges[k+1].(int))
	}
	return text + "} "
}

// checkCount checks how many sets of edges there are in the first state: too many, or so many moves.
func checkCount(t *testing.T, what string, n api.Net, isTooMany bool, moves int) {
	t.Helper()
	l, e := discrete.Moves(n, first(t, n))
	want := api.OK
	if isTooMany {
		want = api.ErrLong
	}
	if e != want || len(l) != moves {
		t.Errorf("%s: %d moves, %d; want %d, %d", what, len(l), e, moves, want)
	}
}

// P13.2: at most 300 sets of open edges, whether they are moves or not.
func TestMaxMoves(t *testing.T) {
	alone := head
	for _, name := range []string{"P", "Q", "R", "S", "T"} {
		alone += process(name, "", "A -> A", 60)
	}
	checkCount(t, "300 edges", compiled(t, alone), false, 300)
	checkCount(t, "300 edges and others", compiled(t, alone+process("U", "", "B -> A", 20, "A -> A if v", 20, "A -> A sync a!", 5, "A -> A sync b?", 15)), false, 300)
	checkCount(t, "301 edges", compiled(t, alone+process("U", "", "A -> A", 1)), true, 0)
	checkCount(t, "300 edges and a sender", compiled(t, alone+process("U", "", "A -> A sync b!", 1)), true, 0)
	checkCount(t, "many edges", compiled(t, alone+process("U", "", "A -> A", 60)), true, 0)
	for extra := range 2 {
		what := fmt.Sprint("300 and ", extra)
		pairs := process("P", "", "A -> A sync a!", 20, "A -> A", extra) + process("Q", "", "A -> A sync a?", 7) + process("R", "", "A -> A sync a?", 8)
		checkCount(t, what+" pairs", compiled(t, head+pairs), extra > 0, 300*(1-extra))
		spread := process("P", "", "A -> A sync b!", 1) + process("Q", "", "A -> A sync b?", 3) + process("R", "", "A -> A sync b?", 4) + process("S", "", "A -> A sync b?", 5, "A -> A", extra) + process("T", "", "A -> A sync b?", 5)
		checkCount(t, what+" choices", compiled(t, head+spread), extra > 0, 300*(1-extra))
		noUpdate := process("P", "", "A -> A do v = 3", 60, "A -> B", 0) + strings.Repeat(process("Q", "", "A -> A do v = 1 / v", 60), 1) + process("R", "", "A -> A do w = 6", 60) + process("S", "", "A -> A sync b! do v = 3", 60) + process("T", "", "A -> A do v = -1", 60) + process("U", "", "A -> A do v = 9", extra)
		checkCount(t, what+" updates that cannot be made", compiled(t, head+noUpdate), extra > 0, 0)
		held := process("P", "", "A -> A", 60) + process("Q", "", "A -> A", 60) + process("R", "", "A -> A", 60) + process("S", "", "A -> A", 60) + process("T", "", "A -> A", 59+extra) + process("U", "committed", "A -> A", 1)
		checkCount(t, what+" edges beside a committed location", compiled(t, head+held), extra > 0, 1-extra)
	}
}

// P13.2, P13.3: very many choices of receivers.
func TestVeryManyChoices(t *testing.T) {
	text := head + process("P", "", "A -> A sync b!", 1)
	for _, name := range []string{"Q", "R", "S", "T", "U"} {
		text += process(name, "", "A -> A sync b?", 60)
	}
	n := compiled(t, text)
	checkCount(t, "60^5 choices", n, true, 0)
	if still, e := discrete.Still(n, first(t, n)); still || e != api.OK {
		t.Errorf("Still is %v, %d", still, e)
	}
	for _, reach := range []int{1, 10000} {
		if l, e := discrete.Reach(n, reach); e != api.ErrLong || len(l) > 0 {
			t.Errorf("Reach is %d, %d", len(l), e)
		}
	}
	n.Chans[2].Urgent = true
	if still, e := discrete.Still(n, first(t, n)); !still || e != api.OK {
		t.Errorf("Still is %v, %d", still, e)
	}
}

// counters are variables that count up to their ends.
func counters(ends ...int) string {
	text, edges := "model m; ", ""
	for k, end := range ends {
		text += fmt.Sprintf("var v%d in 0..%d = 0; ", k, end)
		edges += fmt.Sprintf("edge A -> A do v%d = v%d + 1; ", k, k)
	}
	return text + "process P init A { loc A; " + edges + "}"
}

// P13.4: what may be asked for, and how many states there may be.
func TestMostReached(t *testing.T) {
	for _, c := range []struct {
		text       string
		most, size int
		want       api.Errno
	}{
		{counters(0), 1, 1, api.OK}, {counters(0), 10000, 1, api.OK}, {counters(0), 0, 0, api.ErrArg}, {counters(0), -1, 0, api.ErrArg}, {counters(0), 10001, 0, api.ErrArg},
		{counters(0), -1 << 63, 0, api.ErrArg}, {counters(0), 1<<63 - 1, 0, api.ErrArg}, {counters(1), 1, 0, api.ErrLong}, {counters(1), 2, 2, api.OK},
		{counters(9, 9), 100, 100, api.OK}, {counters(9, 9), 99, 0, api.ErrLong}, {counters(9, 9), 10000, 100, api.OK}, {counters(9, 9), 1, 0, api.ErrLong},
		{counters(9999), 10000, 10000, api.OK}, {counters(10000), 10000, 0, api.ErrLong}, {counters(1 << 30), 10000, 0, api.ErrLong},
	} {
		n := compiled(t, c.text)
		if l, e := discrete.Reach(n, c.most); e != c.want || len(l) != c.size {
			t.Errorf("%s: Reach of %d is %d states, %d; want %d, %d", c.text, c.most, len(l), e, c.size, c.want)
		}
	}
}

// checkFlatSize checks how many locations and edges a flat automaton has; none for ErrLong.
func checkFlatSize(t *testing.T, text string, locs, edges int) {
	t.Helper()
	f, states, e := discrete.Flat(compiled(t, text))
	want := api.OK
	if locs == 0 {
		want = api.ErrLong
	}
	if e != want || len(f.Locs) != locs || len(f.Edges) != edges || len(states) != locs || f.Clocks > 0 && locs == 0 {
		t.Errorf("%.300s: %d locations, %d states, %d edges, %d; want %d, %d, %d", text, len(f.Locs), len(states), len(f.Edges), e, locs, edges, want)
	}
}

// P13.5: how many locations and edges there may be.
func TestMaxFlat(t *testing.T) {
	checkFlatSize(t, counters(63), 64, 63)
	checkFlatSize(t, counters(64), 0, 0)
	checkFlatSize(t, counters(3, 3, 3), 64, 144)
	checkFlatSize(t, counters(4, 3, 3), 0, 0)
	checkFlatSize(t, counters(1, 1, 1, 1, 1, 1), 64, 192)
	checkFlatSize(t, counters(1<<30), 0, 0)
	three := head + process("P", "", "A -> A", 60) + process("Q", "", "A -> A", 60) + process("R", "", "A -> A", 60)
	checkFlatSize(t, three+process("S", "", "A -> A", 20), 1, 200)
	checkFlatSize(t, three+process("S", "", "A -> A", 21), 0, 0)
	checkFlatSize(t, three+process("S", "", "A -> A", 60), 0, 0)
	checkFlatSize(t, three+process("S", "", "A -> A", 20, "A -> A do v = 3", 40), 1, 200)
	checkFlatSize(t, three+process("S", "", "A -> A", 20, "A -> B", 1), 0, 0)
	checkFlatSize(t, inProcess("loc A; loc B; "+strings.Repeat("edge A -> B; ", 50)), 2, 50)
}

// P13.4, P13.5: a state with too many sets of edges, which is reached late, or not at all.
func TestTooManyMovesLater(t *testing.T) {
	for high, want := range map[string]api.Errno{"1": api.OK, "2": api.ErrLong} {
		text := "model m; clock x; broadcast chan b; var v in 0.." + high + " = 0; " + process("P", "", "A -> A do v = v + 1", 1, "A -> A if v == 2 sync b!", 1)
		for _, name := range []string{"Q", "R"} {
			text += process(name, "", "A -> A sync b?", 20)
		}
		n := compiled(t, text)
		l, reachE := discrete.Reach(n, 100)
		f, states, flatE := discrete.Flat(n)
		if reachE != want || flatE != want {
			t.Errorf("v up to %s: Reach is %d, Flat is %d; want %d", high, reachE, flatE, want)
		}
		if size := 2 * (1 - min(1, int(want))); len(l) != size || len(states) != size || len(f.Locs) != size || f.Clocks*2 != size || len(f.Edges)*2 != size {
			t.Errorf("v up to %s: %d states, %d locations with %d states, %d edges", high, len(l), len(f.Locs), len(states), len(f.Edges))
		}
	}
}

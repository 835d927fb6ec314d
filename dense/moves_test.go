package dense_test

import (
	"fmt"
	"math"
	"testing"

	"foliot/api"
	"foliot/dense"
)

// checkMoves checks which moves are possible, by Enabled, and each of them by Act: want are the states behind them, "-" where a move is not possible.
func checkMoves(t *testing.T, what string, n api.Net, s api.Dense, want ...string) {
	t.Helper()
	var possible []int
	for k, text := range want {
		if text == "-" {
			text = "error 9"
		} else {
			possible = append(possible, k)
		}
		checkText(t, fmt.Sprintf("%s: Act of %s, %d", what, stateText(s), k), act(t, n, s, k), text)
	}
	checkEnabled(t, what, n, s, possible...)
	for _, k := range []int{-1, -2, len(want), len(want) + 1, math.MaxInt, math.MinInt} {
		checkText(t, what+": no such move", act(t, n, s, k), "error 4")
	}
}

// P14.4: guards of each form, below, at and above their constants.
func TestGuards(t *testing.T) {
	n := compiled(t, inProcess("loc A; loc B; edge A -> B when x <= 2; edge A -> B when x < 2; edge A -> B when x >= 2; edge A -> B when x > 2;"))
	for clocks, forms := range map[string]string{
		"0 3": "yynn", "1 3": "yynn", "2147483647/1073741824 0": "yynn", "2 0": "ynyn", "2147483647/1073741823 1": "nnyy", "3 1": "nnyy", "2147483647 1": "nnyy",
	} {
		s := at(t, n, clocks)
		var want []string
		for _, form := range forms {
			if form == 'n' {
				want = append(want, "-")
			} else {
				want = append(want, fmt.Sprint("[1] [0] ", stateText(s)[len("[0] [0] "):]))
			}
		}
		checkMoves(t, "all forms", n, s, want...)
	}
}

// P14.4: all guards of a move have to hold.
func TestAllGuards(t *testing.T) {
	n := compiled(t, inProcess("loc A; loc B; edge A -> B when x >= 1 && y <= 3 && x < 4; edge A -> A when y > 3 && y > 5; edge A -> A when x == 2;"))
	checkMoves(t, "one edge", n, at(t, n, "1 3"), "[1] [0] [1 3]", "-", "-")
	checkMoves(t, "one edge", n, at(t, n, "1 4"), "-", "-", "-")
	checkMoves(t, "one edge", n, at(t, n, "1/2 3"), "-", "-", "-")
	checkMoves(t, "one edge", n, at(t, n, "4 6"), "-", "[0] [0] [4 6]", "-")
	checkMoves(t, "one edge", n, at(t, n, "2 3/2"), "[1] [0] [2 3/2]", "-", "[0] [0] [2 3/2]")
	n = compiled(t, withOther("loc A; loc B; edge A -> B when x > 1 sync a! do v = v + 1 reset x = 4; edge A -> B sync b! do v = 2;", "loc A; loc B; edge A -> B when x <= 3 && y < 7 sync a? reset y = 5; edge A -> A sync b?;"))
	checkMoves(t, "two edges", n, at(t, n, "2 6"), "[1 1] [1] [4 5]", "[1 0] [2] [2 6]")
	checkMoves(t, "two edges", n, at(t, n, "1 6"), "-", "[1 0] [2] [1 6]")
	checkMoves(t, "two edges", n, at(t, n, "7/2 6"), "-", "[1 0] [2] [7/2 6]")
	checkMoves(t, "two edges", n, at(t, n, "3 7"), "-", "[1 0] [2] [3 7]")
	checkMoves(t, "two edges", n, at(t, n, "3 27/4"), "[1 1] [1] [4 5]", "[1 0] [2] [3 27/4]")
}

// P14.4: resets are made in order; guards are about the clocks before them.
func TestResets(t *testing.T) {
	n := compiled(t, inProcess("loc A; edge A -> A when x <= 2 reset x = 3, x = 1; edge A -> A when x <= 2 reset x = 9; edge A -> A when x > 2 reset x = 0, y = 1048576; edge A -> A reset y = 2, x = 4, y = 0;"))
	checkMoves(t, "one edge", n, at(t, n, "1/2 7/3"), "[0] [0] [1 7/3]", "[0] [0] [9 7/3]", "-", "[0] [0] [4 0]")
	checkMoves(t, "one edge", n, at(t, n, "5/2 7/3"), "-", "-", "[0] [0] [0 1048576]", "[0] [0] [4 0]")
	n = compiled(t, withOther("loc A; edge A -> A sync a! reset x = 1, y = 2; edge A -> A sync a? reset x = 3;", "loc A; edge A -> A sync a? reset y = 5; edge A -> A sync a! reset x = 6, y = 7;"))
	checkMoves(t, "two edges", n, at(t, n, "1/2 7/3"), "[0 0] [0] [1 5]", "[0 0] [0] [3 7]")
}

// P14.4: the invariant behind a move has to hold behind its resets.
func TestInvariantsBehindMoves(t *testing.T) {
	n := compiled(t, inProcess("loc A; loc B inv x <= 2 && y < 3; edge A -> B; edge A -> B reset x = 0; edge A -> B reset x = 2, y = 2; edge A -> B reset x = 3; edge A -> B reset x = 3, x = 1; edge A -> B reset y = 3; edge A -> A;"))
	checkMoves(t, "another location", n, at(t, n, "1/2 1/2"), "[1] [0] [1/2 1/2]", "[1] [0] [0 1/2]", "[1] [0] [2 2]", "-", "[1] [0] [1 1/2]", "-", "[0] [0] [1/2 1/2]")
	checkMoves(t, "another location", n, at(t, n, "5/2 1"), "-", "[1] [0] [0 1]", "[1] [0] [2 2]", "-", "[1] [0] [1 1]", "-", "[0] [0] [5/2 1]")
	checkMoves(t, "another location", n, at(t, n, "2 3"), "-", "-", "[1] [0] [2 2]", "-", "-", "-", "[0] [0] [2 3]")
	n = compiled(t, withOther("loc A inv x <= 2; loc B; edge A -> B reset x = 5; edge A -> A reset x = 5;", "loc A inv y <= 4; loc B inv y < 1; edge A -> B; edge A -> B reset y = 0; edge A -> A reset y = 5;"))
	checkMoves(t, "a location that is left", n, at(t, n, "1 1"), "[1 0] [0] [5 1]", "-", "-", "[0 1] [0] [1 0]", "-")
	checkMoves(t, "other processes", n, in(t, n, []int{1, 0}, "9 1/2"), "[1 1] [0] [9 1/2]", "[1 1] [0] [9 0]", "-")
	checkMoves(t, "other processes", n, in(t, n, []int{0, 1}, "2 1/2"), "[1 1] [0] [5 1/2]", "-")
}

// P14.4: moves take no time: they are possible where time may not pass, and committed locations go first.
func TestMovesWithoutTime(t *testing.T) {
	n := compiled(t, withOther("loc A urgent; edge A -> A when x >= 1;", "loc A; loc B committed; edge A -> B; edge B -> A when y > 1;"))
	checkMoves(t, "urgent", n, at(t, n, "1 0"), "[0 0] [0] [1 0]", "[0 1] [0] [1 0]")
	checkMoves(t, "urgent", n, at(t, n, "0 0"), "-", "[0 1] [0] [0 0]")
	checkMoves(t, "committed", n, in(t, n, []int{0, 1}, "1 0"), "-")
	checkMoves(t, "committed", n, in(t, n, []int{0, 1}, "1 2"), "[0 0] [0] [1 2]")
}

// P14.4: no moves at all, and moves that variables do not allow, which have no index.
func TestNoMoves(t *testing.T) {
	n := compiled(t, inProcess("loc A; loc B; edge B -> A;"))
	checkMoves(t, "no moves", n, first(t, n))
	n = compiled(t, inProcess("loc A; edge A -> A do v = 3; edge A -> A if v; edge A -> A when x > 5; edge A -> A do v = 1;"))
	checkMoves(t, "few moves", n, first(t, n), "-", "[0] [1] [0 0]")
}

// P14.4, P14.5: the error of discrete.Moves comes before that of the index.
func TestTooManyMoves(t *testing.T) {
	n := compiled(t, crowd())
	s := first(t, n)
	checkText(t, "Enabled", enabled(n, s), fmt.Sprintln(0, []int{}, api.ErrLong))
	for _, k := range []int{-1, 0, 299, 300, 301} {
		checkText(t, "Act", act(t, n, s, k), "error 3")
	}
	steps := []api.Step{{Wait: read("1"), Move: -1}, {Wait: read("1/2"), Move: -1}, {Wait: read("0"), Move: 400}}
	checkText(t, "Run", run(t, n, s, steps), "error 3 2")
	checkText(t, "Run", run(t, n, s, steps[:2]), "[0 0 0 0 0 0] [0] [3/2 3/2] 2")
	n.Procs[5].Edges = nil
	want := make([]int, 300)
	for k := range want {
		want[k] = k
	}
	checkEnabled(t, "300 moves", n, s, want...)
	checkText(t, "Act", act(t, n, s, 299), "[0 0 0 0 0 0] [0] [0 0]")
	checkText(t, "Act", act(t, n, s, 300), "error 4")
}

// P14.1 to P14.4: a net of eight clocks, each with its own number.
func TestEightClocks(t *testing.T) {
	n := compiled(t, "model m; clock a, b, c, d, e, f, g, h; process P init A { loc A inv h <= 9 && a < 8; loc B inv g <= 6; edge A -> B when b > 1 && f >= 5 reset g = 6, c = 0; edge A -> A when d < 4 reset e = 1, h = 9; }")
	s, e := dense.Wait(n, first(t, n), read("7/2"))
	checkText(t, "Wait", answer(t, n, s, e), "[0] [] [7/2 7/2 7/2 7/2 7/2 7/2 7/2 7/2]")
	checkMost(t, "eight clocks", n, s, read("9/2"), false, false, api.OK)
	checkMoves(t, "eight clocks", n, s, "-", "[0] [] [7/2 7/2 7/2 7/2 1 7/2 7/2 9]")
	s = at(t, n, "1 2 3 4 5 6 7 8")
	checkMost(t, "eight clocks", n, s, read("1"), true, false, api.OK)
	checkMoves(t, "eight clocks", n, s, "[1] [] [1 2 0 4 5 6 6 8]", "-")
}

package dense_test

import (
	"fmt"
	"slices"
	"testing"

	"foliot/api"
)

// stepsOf reads steps: waits and moves.
func stepsOf(l ...any) []api.Step {
	var steps []api.Step
	for k := 0; k < len(l); k += 2 {
		steps = append(steps, api.Step{Wait: read(l[k].(string)), Move: l[k+1].(int)})
	}
	return steps
}

// P14.5: the chapter's examples.
func TestRunExample(t *testing.T) {
	n := compiled(t, example)
	checkText(t, "to the end", run(t, n, first(t, n), stepsOf("1", 0, "4", 0)), "[1] [] [4] 2")
	checkText(t, "not to the end", run(t, n, first(t, n), stepsOf("1", 0, "3", 0)), "error 9 1")
}

// P14.5: waits and moves one after the other, up to the first error.
func TestRun(t *testing.T) {
	n := compiled(t, withOther("loc A inv x <= 2; loc B urgent; edge A -> B when x > 1 sync a! do v = v + 1 reset x = 0; edge B -> A when y < 3; edge B -> A when y >= 3;", "loc A; edge A -> A sync a? reset y = 2;"))
	s := first(t, n)
	for _, c := range []struct {
		l    []api.Step
		want string
	}{
		{nil, "[0 0] [0] [0 0] 0"},
		{stepsOf("0", -1), "[0 0] [0] [0 0] 1"},
		{stepsOf("1/2", -1, "1/3", -1, "0", -1), "[0 0] [0] [5/6 5/6] 3"},
		{stepsOf("2", 0), "[1 0] [1] [0 2] 1"},
		{stepsOf("2", -1, "0", 0, "0", -1, "0", 0), "[0 0] [1] [0 2] 4"},
		{stepsOf("2", 0, "0", 0, "5/3", 0), "[1 0] [2] [0 2] 3"},
		{stepsOf("2", 0, "0", 0, "5/3", 0, "0", 0, "3/2", 0), "error 4 4"},
		{stepsOf("2", 0, "0", 0, "5/3", 0, "0", 0, "3/2", -1), "[0 0] [2] [3/2 7/2] 5"},
		{stepsOf("1", 0), "error 9 0"},
		{stepsOf("2", 0, "0", 1), "error 9 1"},
		{stepsOf("2", 0, "1", -1), "error 9 1"},
		{stepsOf("2", 0, "1", 7), "error 9 1"},
		{stepsOf("2", 0, "0", 2), "error 4 1"},
		{stepsOf("2", 0, "0", -2), "error 4 1"},
		{stepsOf("2", 0, "0", 0, "-1", 0), "error 2 2"},
		{stepsOf("1", -1, "9", 0, "1", 0), "error 9 1"},
		{stepsOf("1", -1, "2147483647", -1), "error 7 1"},
		{stepsOf("1", -1, "2147483647", 5), "error 7 1"},
		{stepsOf("1", -1, "1", -1, "1/9", -1, "-1", 0), "error 9 2"},
		{append(stepsOf("1", -1, "1/2", -1), api.Step{}), "error 2 2"},
		{[]api.Step{{Wait: api.Ratio{Num: 2, Den: 2}, Move: -1}}, "error 2 0"},
	} {
		checkText(t, plain(c.l), run(t, n, s, c.l), c.want)
	}
	checkText(t, "from a later state", run(t, n, in(t, n, []int{1, 0}, "1/2 3"), stepsOf("0", 1, "1", 0)), "[1 0] [1] [0 2] 2")
}

// P14.5: at most 1000 steps, whatever they are.
func TestMaxRun(t *testing.T) {
	n := compiled(t, "model m; clock x; process P init A { loc A; edge A -> A when x <= 1 reset x = 0; }")
	s := first(t, n)
	for k, want := range map[int]string{999: "[0] [] [0] 999", 1000: "[0] [] [0] 1000", 1001: "error 3 0", 5000: "error 3 0"} {
		checkText(t, fmt.Sprint(k, " moves"), run(t, n, s, slices.Repeat(stepsOf("1/3", 0), k)), want)
	}
	for k, want := range map[int]string{1000: "[0] [] [250] 1000", 1001: "error 3 0"} {
		checkText(t, fmt.Sprint(k, " waits"), run(t, n, s, slices.Repeat(stepsOf("1/4", -1), k)), want)
	}
	checkText(t, "1000 steps, the last one wrong", run(t, n, s, append(slices.Repeat(stepsOf("1/3", 0), 999), stepsOf("2", 0)...)), "error 9 999")
	checkText(t, "1001 steps, the first one wrong", run(t, n, s, make([]api.Step, 1001)), "error 3 0")
}

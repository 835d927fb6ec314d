package eval

import (
	"fmt"
	"slices"
	"testing"

	"foliot/api"
)

// P10.1, P10.2, rule R3: arguments are not changed, with what lies behind the lengths of their lists.
func TestArgumentsAreNotChanged(t *testing.T) {
	l := functions(t, "func f(a, b) { var c = a; while (c) { c = c - 1; var d = c; b = b + d; } if (b) { a = 1; } else { a = 2; } return a + b; } func g(a) { return a / 0; }")
	given, numbers := []string{"v", "w", "v", "a"}, []int64{3, 4, 5, 1 << 40}
	for text, want := range map[string]outcome{"f(v, w)": {8, api.OK, 3 + 2 + 2 + 3*11 + 4 + 4}, "g(v)": {0, api.ErrMath, 6}, "f(1000, v)": {0, api.ErrSteps, mostSteps}} {
		x := tree(t, text)
		before := fmt.Sprint(x, given, numbers, l)
		for range 3 {
			if got := outcomeOf(t, x, given[:2], numbers[:2], l); got != want {
				t.Errorf("%s: %+v, not %+v", text, got, want)
			}
			checkRefused(t, text, x, given[:3], numbers[:3], l, api.ErrArg)
			checkRefused(t, text, x, given[:1], numbers[:2], l, api.ErrArg)
			checkRefused(t, text, x, given[:2], numbers[:2], l[:0], api.ErrName)
		}
		if after := fmt.Sprint(x, given, numbers, l); after != before {
			t.Fatalf("the arguments are changed: %s, not %s", after, before)
		}
	}
}

// P10.1, P10.2, rule R6: nothing of an earlier call is left, whatever has become of its arguments.
func TestCallsAreIndependent(t *testing.T) {
	g := newGenerator(3)
	type program struct {
		x    api.Exp
		l    []api.Func
		ends outcome
	}
	var all []program
	numbers := []int64{5, -2}
	for range 1000 {
		x, l, _ := g.program(t)
		all = append(all, program{x, l, outcomeOf(t, x, names, numbers, l)})
	}
	slices.Reverse(all)
	usedNames, usedValues, usedFuncs := make([]string, 2), make([]int64, 2), make([]api.Func, 4)
	for _, c := range all {
		copy(usedNames, names)
		copy(usedValues, numbers)
		if got := outcomeOf(t, c.x, usedNames, usedValues, append(usedFuncs[:0], c.l...)); got != c.ends {
			t.Fatalf("%+v and then %+v", c.ends, got)
		}
		usedNames[0], usedValues[0] = "other", 9
	}
}

// P10.1, P10.2, rule R4: nil and empty lists are the same.
func TestEmptyLists(t *testing.T) {
	none := []api.Stmt{}
	one := api.Exp{Kind: api.ExInt, Int: 1, Args: []api.Exp{}}
	l := []api.Func{{Name: "f", Params: []string{}, Body: []api.Stmt{
		{Kind: api.StVar, Name: "b", Val: one, Body: none, Else: none},
		{Kind: api.StIf, Val: one, Body: none, Else: none},
		{Kind: api.StWhile, Val: api.Exp{Kind: api.ExNot, Args: []api.Exp{{Kind: api.ExName, Name: "b", Args: []api.Exp{}}}}, Body: none, Else: none},
		{Kind: api.StReturn, Val: api.Exp{Kind: api.ExName, Name: "b"}, Body: none, Else: none},
	}}}
	for _, noNames := range [][]string{nil, {}} {
		for _, noValues := range [][]int64{nil, {}} {
			got := outcomeOf(t, api.Exp{Kind: api.ExCall, Name: "f", Args: []api.Exp{}}, noNames, noValues, l)
			if got != (outcome{1, api.OK, 10}) {
				t.Errorf("f(): %+v", got)
			}
			if got := outcomeOf(t, one, noNames, noValues, []api.Func{}); got != (outcome{1, api.OK, 1}) {
				t.Errorf("1: %+v", got)
			}
			checkRefused(t, "f()", tree(t, "f()"), noNames, noValues, nil, api.ErrName)
		}
	}
}

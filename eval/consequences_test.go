package eval

import (
	"testing"

	"foliot/api"
)

func size(x api.Exp) int {
	n := 1
	for _, y := range x.Args {
		n += size(y)
	}
	return n
}

// P10.3: values lie between -2147483648 and 2147483648, and there is none with an error.
func TestValuesAreInRange(t *testing.T) {
	g := newGenerator(4)
	seen := map[string]int{}
	for range 20000 {
		x, l, text := g.program(t)
		got := outcomeOf(t, x, names, g.values(), l)
		if got.value < -greatest || got.value > greatest || got.e != api.OK && got.value != 0 || got.steps < 1 || got.steps > mostSteps {
			t.Fatalf("%s: %+v", text, got)
		}
		switch {
		case got.value == greatest || got.value == -greatest:
			seen["at the ends"]++
		case got.value > 100 || got.value < -100:
			seen["large"]++
		case got.e == api.ErrRange:
			seen["too large"]++
		}
	}
	if min(seen["at the ends"], seen["large"], seen["too large"]) < 50 {
		t.Errorf("too few of some: %v", seen)
	}
}

// P10.3: an expression without calls takes at most as many steps as it has nodes.
func TestStepsWithoutCalls(t *testing.T) {
	g := newGenerator(5)
	all, fewer := 0, 0
	for range 20000 {
		text := g.exp(5)
		x := tree(t, text)
		got := outcomeOf(t, x, names, g.values(), nil)
		switch {
		case got.steps > size(x) || got.steps < 1:
			t.Fatalf("%s: %+v with %d nodes", text, got, size(x))
		case got.steps == size(x):
			all++
		default:
			fewer++
		}
	}
	if min(all, fewer) < 1000 {
		t.Errorf("%d expressions take all steps, and %d fewer", all, fewer)
	}
}

// P10.1 to P10.3: an expression that is as large as may be.
func TestLargeExpressions(t *testing.T) {
	deep, broad := api.Exp{Kind: api.ExName, Name: "v"}, api.Exp{Kind: api.ExName, Name: "v"}
	for range 29 {
		deep = api.Exp{Kind: api.ExNeg, Args: []api.Exp{deep}}
	}
	if got := outcomeOf(t, deep, names, values, nil); got != (outcome{-7, api.OK, 30}) {
		t.Errorf("30 deep: %+v", got)
	}
	for range 7 {
		broad = api.Exp{Kind: api.ExAdd, Args: []api.Exp{broad, broad}}
	}
	if got := outcomeOf(t, broad, names, values, nil); got != (outcome{7 * 128, api.OK, 255}) {
		t.Errorf("255 nodes: %+v", got)
	}
	if got := outcomeOf(t, broad, names, []int64{1 << 25, 0}, nil); got != (outcome{0, api.ErrRange, 255}) {
		t.Errorf("255 nodes: %+v", got)
	}
}

package eval

import (
	"testing"

	"foliot/api"
	"foliot/code"
)

// The names that are given where a test says nothing else.
var (
	names  = []string{"v", "w"}
	values = []int64{7, 4}
)

const (
	greatest  = int64(1) << 31
	mostSteps = 1000
)

// tree returns the expression of a text.
func tree(t *testing.T, text string) api.Exp {
	t.Helper()
	x, at, e := code.ParseExp(text)
	if e != api.OK {
		t.Fatalf("%q is wrong at %d: %d", text, at, e)
	}
	return x
}

// functions returns the functions of a text.
func functions(t *testing.T, text string) []api.Func {
	t.Helper()
	l, at, e := code.ParseFuncs(text)
	if e != api.OK {
		t.Fatalf("%q is wrong at %d: %d", text, at, e)
	}
	return l
}

// outcome is how an evaluation ends: with a value or with an error, behind some steps.
type outcome struct {
	value int64
	e     api.Errno
	steps int
}

// outcomeOf returns what Value and Steps say of an expression that has no static error.
func outcomeOf(t *testing.T, x api.Exp, names []string, values []int64, l []api.Func) outcome {
	t.Helper()
	value, e := Value(x, names, values, l)
	steps, stepsE := Steps(x, names, values, l)
	if stepsE != api.OK {
		t.Errorf("Steps: %d, %d, and Value: %d, %d", steps, stepsE, value, e)
	}
	return outcome{value, e, steps}
}

// check compares the outcome of an expression, for v = 7 and w = 4, with the one that is wanted.
func check(t *testing.T, text, more string, want outcome) {
	t.Helper()
	if got := outcomeOf(t, tree(t, text), names, values, functions(t, more)); got != want {
		t.Errorf("%s with %q: %+v, not %+v", text, more, got, want)
	}
}

// checkRefused checks that an evaluation does not begin.
func checkRefused(t *testing.T, what string, x api.Exp, names []string, values []int64, l []api.Func, want api.Errno) {
	t.Helper()
	if value, e := Value(x, names, values, l); value != 0 || e != want {
		t.Errorf("Value of %s: %d, %d, not 0, %d", what, value, e, want)
	}
	if steps, e := Steps(x, names, values, l); steps != 0 || e != want {
		t.Errorf("Steps of %s: %d, %d, not 0, %d", what, steps, e, want)
	}
}

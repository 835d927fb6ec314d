package eval

import (
	"strconv"
	"strings"
	"testing"

	"foliot/api"
)

// P10.1, P10.2: there are at most 1000 steps; the sum takes 10 and 11 for each round.
func TestMostSteps(t *testing.T) {
	for _, c := range []struct {
		text string
		want outcome
	}{
		{"f(89)", outcome{4005, api.OK, 989}},
		{"f(90)", outcome{4095, api.OK, mostSteps}},
		{"-f(90)", outcome{0, api.ErrSteps, mostSteps}},
		{"f(91)", outcome{0, api.ErrSteps, mostSteps}},
		{"f(2147483648)", outcome{0, api.ErrRange, 4 + 1 + 11 + 3 + 4}},
		{"f(89) - 0 - 0 - 0 - 0 - 0", outcome{4005, api.OK, 999}},
		{"-(f(89) - 0 - 0 - 0 - 0 - 0)", outcome{-4005, api.OK, mostSteps}},
		{"f(89) - 0 - 0 - 0 - 0 - 0 - 0", outcome{0, api.ErrSteps, mostSteps}},
		{"f(45) + f(44)", outcome{1035 + 990, api.OK, 1 + 505 + 494}},
		{"!(f(45) + f(44))", outcome{0, api.ErrSteps, mostSteps}},
		{"f(90) || f(90)", outcome{0, api.ErrSteps, mostSteps}},
		{"f(89) || f(90)", outcome{1, api.OK, 990}},
		{"f(90) / 0", outcome{0, api.ErrSteps, mostSteps}},
		{"f(f(13))", outcome{0, api.ErrSteps, mostSteps}},
		{"f(f(12))", outcome{0, api.ErrSteps, mostSteps}},
		{"f(f(11))", outcome{2211, api.OK, 1 + (10 + 11*11) + (8 + 11*66)}},
	} {
		check(t, c.text, sum, c.want)
	}
}

// P10.1, P10.2: an error counts if it comes before the step 1001 would begin.
func TestErrorsNearTheLastStep(t *testing.T) {
	const more = sum + "func g(n) { var s = f(n); return s / 0; } func h(n) { var s = f(n); return s * 2147483648; }"
	for rounds := 85; rounds <= 92; rounds++ {
		for nots := range 26 {
			// The call and its argument, the variable, all of the sum, the return and its operation with two parts.
			steps := nots + 2 + 1 + (10 + 11*rounds) + 1 + 3
			for name, e := range map[string]api.Errno{"g": api.ErrMath, "h": api.ErrRange} {
				want := outcome{0, e, steps}
				if steps > mostSteps {
					want = outcome{0, api.ErrSteps, mostSteps}
				}
				check(t, strings.Repeat("!", nots)+name+"("+strconv.Itoa(rounds)+")", more, want)
			}
		}
	}
}

// P10.1, P10.2: what does not end takes 1000 steps.
func TestWhatDoesNotEnd(t *testing.T) {
	for _, body := range []string{
		"while (1) { } return 1;", "while (v) { } return 1;", "while (w - v) { } return 1;", "var b = 0; while (b == b) { b = 1 - b; } return b;",
		"while (1) { while (0) { return 1; } } return 2;", "while (1) { while (1) { } } return 2;", "while (1) { if (0) { return 1; } } return 2;",
		"var b = 1; while (b) { b = b > 5 ? 1 : b + 1; } return b;",
	} {
		more := "func f() { " + body + " } func g() { return f(); }"
		want := outcome{0, api.ErrSteps, mostSteps}
		check(t, "f()", more, want)
		check(t, "g()", more, want)
		check(t, "1 + f() / 0", more, want)
		check(t, "1 || f()", more, outcome{1, api.OK, 2})
	}
}

// P10.1, P10.2: functions that call the one before twice take more steps than they have nodes. Each takes twice as many, and the call, the return and the name.
func TestStepsOfManyCalls(t *testing.T) {
	const more = "func a(n) { return n + 1; } func b(n) { return a(a(n)); } func c(n) { return b(b(n)); } func d(n) { return c(c(n)); } func e(n) { return d(d(n)); } func f(n) { return e(e(n)); } func g(n) { return f(f(n)); } func h(n) { return g(g(n)); }"
	for text, want := range map[string]outcome{
		"a(1)": {2, api.OK, 1 + 5}, "b(1)": {3, api.OK, 1 + 13}, "c(1)": {5, api.OK, 1 + 29}, "d(1)": {9, api.OK, 1 + 61},
		"e(1)": {17, api.OK, 1 + 125}, "f(1)": {33, api.OK, 1 + 253}, "g(1)": {65, api.OK, 1 + 509}, "h(1)": {0, api.ErrSteps, mostSteps},
		"g(f(e(d(c(b(a(-1)))))))": {126, api.OK, 1 + 5 + 13 + 29 + 61 + 125 + 253 + 509}, "-g(f(e(d(c(b(1))))))": {-127, api.OK, 1 + 1 + 13 + 29 + 61 + 125 + 253 + 509},
		"a(g(f(e(d(c(b(a(1))))))))": {0, api.ErrSteps, mostSteps},
	} {
		check(t, text, more, want)
	}
}

// P10.2: an error before the evaluation is an error of Steps, one that ends it is not.
func TestErrorsOfSteps(t *testing.T) {
	for text, want := range map[string]outcome{
		"v / 0": {0, api.ErrMath, 3}, "2147483648 + v": {0, api.ErrRange, 3}, "f(100)": {0, api.ErrSteps, mostSteps},
	} {
		check(t, text, sum, want)
	}
	for text, want := range map[string]api.Errno{"v / 0 + x": api.ErrName, "v / 0 + f()": api.ErrCount, "v / 0 + g(1)": api.ErrName} {
		checkRefused(t, text, tree(t, text), names, values, functions(t, sum), want)
	}
}

package eval

import (
	"testing"

	"foliot/api"
)

const sum = "func f(n) { var s = 0; while (n > 0) { s = s + n; n = n - 1; } return s; }"

// P10.1, P10.2: the chapter's examples of a function.
func TestCallExamples(t *testing.T) {
	check(t, "f(10)", sum, outcome{55, api.OK, 120})
	check(t, "f(1000)", sum, outcome{0, api.ErrSteps, 1000})
}

// P10.1, P10.2: arguments are evaluated from left to right, then the body; parameters and local variables have values of their own.
func TestCalls(t *testing.T) {
	for _, c := range []struct {
		text, more string
		want       outcome
	}{
		{"f()", "func f() { return 5; }", outcome{5, api.OK, 3}},
		{"f()", "func f() { return v - w; }", outcome{3, api.OK, 5}},
		{"f(1, 2, 3, 4)", "func f(a, b, c, d) { return a - b * 10 + c * 100 - d * 1000; }", outcome{1 - 20 + 300 - 4000, api.OK, 19}},
		{"f(v / 0, w * 2147483648)", "func f(a, b) { return 1; }", outcome{0, api.ErrMath, 4}},
		{"f(w * 2147483648, v / 0)", "func f(a, b) { return 1; }", outcome{0, api.ErrRange, 4}},
		{"f(1, v / 0)", "func f(a, b) { return 2147483648 * 2; }", outcome{0, api.ErrMath, 5}},
		{"f(v)", "func f(a) { a = a + 1; return a * v; }", outcome{56, api.OK, 10}},
		{"f(v) + v", "func f(a) { a = 0; return a; }", outcome{7, api.OK, 8}},
		{"f(1) + f(2)", "func f(a) { var b = a * 10; a = b; return a + b; }", outcome{60, api.OK, 1 + 2*(2+4+2+4)}},
		{"g(3)", "func f(a) { a = a * 2; return a; } func g(a) { var b = f(a); return a * 100 + b; }", outcome{306, api.OK, 2 + 1 + 2 + 4 + 2 + 6}},
		{"g(3)", "func f(b) { var a = b + 1; return a; } func g(a) { var b = f(a); return a * 100 + b; }", outcome{304, api.OK, 2 + 1 + 2 + 4 + 2 + 6}},
		{"f(f(f(2)))", "func f(a) { return a * a; }", outcome{256, api.OK, 4 + 4*3}},
		{"h(1)", "func f(a) { return a + 1; } func g(a) { return f(f(a)); } func h(a) { return g(g(a)); }", outcome{5, api.OK, 2 + 1 + 1 + 2*3 + 4*5}},
		{"f(0) || f(1)", "func f(a) { return a; }", outcome{1, api.OK, 9}},
		{"f(1) || f(1)", "func f(a) { return a; }", outcome{1, api.OK, 5}},
		{"0 && f(1)", "func f(a) { return a / 0; }", outcome{0, api.OK, 2}},
		{"f(1)", "func f(f) { f = f * 6; return f; }", outcome{6, api.OK, 8}},
		{"f(1)", "func f(a) { return a / 0; }", outcome{0, api.ErrMath, 6}},
		{"f(2147483648)", "func f(a) { var b = a + 1; return 0; }", outcome{0, api.ErrRange, 6}},
		{"f(-2147483648)", "func f(a) { return -a; }", outcome{greatest, api.OK, 5}},
	} {
		check(t, c.text, c.more, c.want)
	}
}

// P10.1, P10.2: statements are executed in order, up to the first return.
func TestStatements(t *testing.T) {
	for _, c := range []struct {
		body string
		want outcome
	}{
		{"return 1; return 2;", outcome{1, api.OK, 2}},
		{"return 1; var b = v / 0; return b;", outcome{1, api.OK, 2}},
		{"var b = 1; b = b + 1; b = b * 5; return b;", outcome{10, api.OK, 2 + 4 + 4 + 2}},
		{"var b = v; var c = b + w; b = 0; return c;", outcome{11, api.OK, 2 + 4 + 2 + 2}},
		{"if (v) { return 1; } else { return 2; }", outcome{1, api.OK, 4}},
		{"if (0) { return 1; } else { return 2; }", outcome{2, api.OK, 4}},
		{"if (-1) { return 1; } return 2;", outcome{1, api.OK, 4}},
		{"if (0) { return 1; } return 2;", outcome{2, api.OK, 4}},
		{"if (v) { } else { return 1; } return 2;", outcome{2, api.OK, 4}},
		{"if (v / 0) { return 1; } return 2;", outcome{0, api.ErrMath, 4}},
		{"if (0) { return v / 0; } return 2;", outcome{2, api.OK, 4}},
		{"var b = 0; if (v) { b = 1; } else { b = 2; } return b;", outcome{1, api.OK, 8}},
		{"var b = 0; if (0) { b = 1; } else { b = 2; } return b;", outcome{2, api.OK, 8}},
		{"if (1) { if (1) { if (1) { return 3; } } } return 4;", outcome{3, api.OK, 8}},
		{"while (0) { return 1; } return 2;", outcome{2, api.OK, 4}},
		{"while (0 - 1) { return 1; } return 2;", outcome{1, api.OK, 6}},
		{"while (1) { while (1) { return 1; } } return 2;", outcome{1, api.OK, 6}},
		{"while (1) { if (v) { return 1; } } return 2;", outcome{1, api.OK, 6}},
		{"while (1) { return v / 0; } return 2;", outcome{0, api.ErrMath, 6}},
		{"var b = 2; while (1 / b) { b = b - 1; } return b;", outcome{2, api.OK, 8}},
		{"var b = 1; while (1 / b) { b = b - 1; } return b;", outcome{0, api.ErrMath, 2 + 1 + 3 + 4 + 3}},
		{"var b = 3; while (b) { b = b - 1; } return b;", outcome{0, api.OK, 2 + 1 + 1 + 3*5 + 2}},
		{"var b = 3; while (b) { var c = b; b = c - 1; } return b;", outcome{0, api.OK, 2 + 1 + 1 + 3*7 + 2}},
		{"var b = 3; var s = 0; while (b) { b = b - 1; var c = b; while (c) { c = c - 1; s = s + 1; } } return s;", outcome{3, api.OK, 4 + 1 + 1 + 3*9 + 3*9 + 2}},
		{"if (1) { var b = 1; } var b = 2; return b;", outcome{2, api.OK, 8}},
		{"if (1) { var b = 1; } else { var b = 2; } if (1) { var b = 3; return b; } return 4;", outcome{3, api.OK, 10}},
		{"var b = 1; if (1) { b = 5; } return b;", outcome{5, api.OK, 8}},
		{"var b = 2; while (b < 9) { b = b * b; } return b;", outcome{16, api.OK, 2 + 1 + 3 + 2*7 + 2}},
		{"var b = w; while (b > 0) { b = b - 1; if (b == 2) { return b * 10; } } return b;", outcome{20, api.OK, 2 + 1 + 2*3 + 2*4 + 2*4 + 4}},
	} {
		c.want.steps++ // the call
		check(t, "f()", "func f() { "+c.body+" }", c.want)
	}
}

// P10.1: names that are given may be any texts; those of an expression have their values.
func TestGivenNames(t *testing.T) {
	odd := []string{"", "if", "no name", "b", "V", "v", "\xff", "a_very_long_name_of_more_than_16_bytes", "w", "3"}
	given := []int64{1, 2, 3, -greatest, 5, greatest, 7, 8, 9, 10}
	for text, want := range map[string]int64{"b": -greatest, "V": 5, "v": greatest, "w": 9, "v + b": 0, "w - V": 4, "f(w)": 8, "g(w)": 81} {
		l := functions(t, "func f(a) { return a - 1; } func g(a) { return a * w; }")
		x := tree(t, text)
		if value, e := Value(x, odd, given, l); value != want || e != api.OK {
			t.Errorf("%s: %d, %d, not %d", text, value, e, want)
		}
	}
}

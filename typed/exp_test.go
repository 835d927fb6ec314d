package typed

import (
	"slices"
	"testing"

	"foliot/api"
)

// someFuncs are functions without an error, with 0 to 4 parameters.
const someFuncs = "func f(a) { return a; } func g() { return f(1); } func h(a, b) { return a + b; } func k(a, b, c) { return c; } func m(a, b, c, d) { return d; }"

// P9.2: names and calls in an expression, in all its parts.
func TestExp(t *testing.T) {
	l := parsed(t, someFuncs)
	for text, want := range map[string]api.Errno{
		"1": api.OK, "-1": api.OK, "v": api.OK, "w": api.OK, "x": api.ErrName, "V": api.ErrName, "vv": api.ErrName,
		"g()": api.OK, "f(1)": api.OK, "h(1, 2)": api.OK, "k(1, 2, 3)": api.OK, "m(1, 2, 3, 4)": api.OK,
		"g(1)": api.ErrCount, "f()": api.ErrCount, "f(1, 2)": api.ErrCount, "h(1)": api.ErrCount, "k(1, 2, 3, 4)": api.ErrCount, "m(1, 2, 3)": api.ErrCount, "m()": api.ErrCount,
		"n()": api.ErrName, "v()": api.ErrName, "a()": api.ErrName, "F(1)": api.ErrName, "f": api.ErrName, "a": api.ErrName, "f + f(1)": api.ErrName,
		"f(v)": api.OK, "f(f(f(v)))": api.OK, "f(g())": api.OK, "h(f(v), h(1, w))": api.OK, "m(g(), g(), g(), g())": api.OK,
		"f(x)": api.ErrName, "f(f(x))": api.ErrName, "h(1, x)": api.ErrName, "m(1, 2, 3, x)": api.ErrName, "m(1, 2, 3, g(0))": api.ErrCount, "m(f(), 2, 3, 4)": api.ErrCount,
		"!v": api.OK, "!x": api.ErrName, "-x": api.ErrName, "-f()": api.ErrCount, "!!x": api.ErrName,
		"v + x": api.ErrName, "x + v": api.ErrName, "v < x": api.ErrName, "v * f()": api.ErrCount, "f() % v": api.ErrCount, "1 || x": api.ErrName, "0 && x": api.ErrName,
		"v ? 1 : 2": api.OK, "x ? 1 : 2": api.ErrName, "v ? x : 2": api.ErrName, "v ? 1 : x": api.ErrName, "1 ? 1 : f()": api.ErrCount,
	} {
		checkExp(t, text, parsedExp(t, text), []string{"v", "w"}, l, want)
	}
}

// P9.2: of an expression the first error from left to right, the parts before the whole.
func TestFirstErrorOfAnExpression(t *testing.T) {
	l := parsed(t, someFuncs)
	for text, want := range map[string]api.Errno{
		"x + f()": api.ErrName, "f() + x": api.ErrCount, "x - x": api.ErrName, "f() == f(x)": api.ErrCount, "f(x) == f()": api.ErrName,
		"f(x, 1)": api.ErrName, "f(1, x)": api.ErrName, "g(x)": api.ErrName, "n(x)": api.ErrName, "n(f())": api.ErrCount, "n(1, 2, f())": api.ErrCount,
		"n(f(), x)": api.ErrCount, "n(x, f())": api.ErrName, "f(g(1), x)": api.ErrCount, "f(n(), g(1))": api.ErrName, "g(n(f()))": api.ErrCount, "g(n(1))": api.ErrName,
		"f() ? x : x": api.ErrCount, "x ? f() : f()": api.ErrName, "v ? f() : x": api.ErrCount, "v ? x : f()": api.ErrName, "v ? v : f(x)": api.ErrName,
		"(v + f()) * x": api.ErrCount, "v + (f() * x)": api.ErrCount, "v + (x * f())": api.ErrName, "v + f(g(!(1 + f(f()))), x)": api.ErrCount,
	} {
		checkExp(t, text, parsedExp(t, text), []string{"v", "w"}, l, want)
	}
}

// P9.2: the chapter's example.
func TestExpExample(t *testing.T) {
	l := parsed(t, "func f(a) { return a + v; } func g() { return f(1); }")
	checkExp(t, "f(1, 2)", parsedExp(t, "f(1, 2)"), []string{"v", "w"}, l, api.ErrCount)
}

// P9.2: all kinds of expressions, with an error in each part.
func TestKinds(t *testing.T) {
	parts := map[int]int{api.ExNeg: 1, api.ExNot: 1, api.ExIf: 3}
	for kind := api.ExAdd; kind <= api.ExOr; kind++ {
		parts[kind] = 2
	}
	l := parsed(t, someFuncs)
	for kind, count := range parts {
		x := exp(kind, slices.Repeat([]api.Exp{name("v")}, count)...)
		checkExp(t, short(x), x, []string{"v"}, l, api.OK)
		checkExp(t, short(x), x, []string{"w"}, l, api.ErrName)
		for k := range count {
			x.Args = slices.Repeat([]api.Exp{name("v")}, count)
			x.Args[k] = name("f")
			checkExp(t, short(x), x, []string{"v"}, l, api.ErrName)
			x.Args[k] = call("f")
			checkExp(t, short(x), x, []string{"v"}, l, api.ErrCount)
		}
	}
}

// P9.2: the error of CheckExp, then that of the functions, then that of the expression.
func TestOrderOfErrors(t *testing.T) {
	long := slices.Repeat([]api.Func{function("f", nil, gives(num(1)))}, 9)
	notFormed := []api.Func{{}}
	static := []api.Func{function("f", nil)}
	good := []api.Func{function("f", nil, gives(num(1)))}
	small, deep := num(1), num(1)
	for range 30 {
		deep = exp(api.ExNot, deep)
	}
	for _, c := range []struct {
		x    api.Exp
		l    []api.Func
		want api.Errno
	}{
		{api.Exp{}, good, api.ErrArg}, {api.Exp{}, long, api.ErrArg}, {api.Exp{}, static, api.ErrArg}, {api.Exp{}, nil, api.ErrArg},
		{name("if"), static, api.ErrArg}, {exp(api.ExAdd, name("x"), num(1<<40)), good, api.ErrArg},
		{deep, good, api.ErrLong}, {deep, notFormed, api.ErrLong}, {deep, static, api.ErrLong}, {deep, nil, api.ErrLong},
		{exp(api.ExAdd, name("x"), call("f", slices.Repeat([]api.Exp{small}, 5)...)), good, api.ErrLong},
		{small, notFormed, api.ErrArg}, {name("x"), notFormed, api.ErrArg}, {call("f", small), notFormed, api.ErrArg},
		{small, long, api.ErrLong}, {name("x"), long, api.ErrLong}, {call("f", small), long, api.ErrLong},
		{small, static, api.ErrReturn}, {name("x"), static, api.ErrReturn}, {call("f", small), static, api.ErrReturn},
		{small, good, api.OK}, {name("x"), good, api.ErrName}, {call("f", small), good, api.ErrCount}, {call("f"), good, api.OK},
	} {
		checkExp(t, short(c.x), c.x, []string{"v"}, c.l, c.want)
	}
	checkExp(t, "a function with a given name", small, []string{"v", "f"}, good, api.ErrName)
	circle := exp(api.ExAdd, small, name("x"))
	circle.Args[0] = circle
	checkExp(t, "a circle", circle, nil, static, api.ErrLong)
	circle.Args[1] = api.Exp{}
	checkExp(t, "a circle", circle, nil, static, api.ErrArg)
}

// P9.2: an expression by itself knows the given names, and none of those in the functions.
func TestNamesInAnExpression(t *testing.T) {
	l := parsed(t, "func f(a, b) { var c = a; while (c) { var d = c; c = d - 1; } return b; } func g() { var e = 1; return e; }")
	for _, s := range []string{"a", "b", "c", "d", "e", "f", "g"} {
		checkExp(t, s, name(s), []string{"v"}, l, api.ErrName)
	}
	for _, s := range []string{"v", "x", "F", "cc"} {
		checkExp(t, s, name(s), []string{"w", "cc", "v", "F", "", "v", "x"}, l, api.OK)
		checkExp(t, s, name(s), nil, l, api.ErrName)
		checkExp(t, s, name(s), nil, nil, api.ErrName)
		checkExp(t, s, name(s), []string{"f", s}, nil, api.OK)
	}
}

// P9.2: an expression that is as large as may be.
func TestLargeExpression(t *testing.T) {
	x := name("v")
	for range 29 {
		x = exp(api.ExNot, x)
	}
	checkExp(t, "30 deep", x, []string{"v"}, nil, api.OK)
	checkExp(t, "30 deep", x, nil, nil, api.ErrName)
	x = name("v")
	for range 7 {
		x = exp(api.ExAdd, x, x)
	}
	x = exp(api.ExMul, exp(api.ExSub, x, name("v")), call("f", name("v")))
	checkExp(t, "260 nodes", x, []string{"v"}, parsed(t, someFuncs), api.OK)
	checkExp(t, "260 nodes", x, nil, parsed(t, someFuncs), api.ErrName)
	checkExp(t, "260 nodes", x, []string{"v"}, nil, api.ErrName)
	checkExp(t, "260 nodes", x, []string{"v"}, parsed(t, "func f() { return 1; }"), api.ErrCount)
}

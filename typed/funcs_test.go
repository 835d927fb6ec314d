package typed

import (
	"slices"
	"strconv"
	"strings"
	"testing"

	"foliot/api"
)

// P9.1: the chapter's examples.
func TestFuncsExamples(t *testing.T) {
	for _, c := range []struct {
		text string
		at   int
		want api.Errno
	}{
		{"func f(a) { return a + v; } func g() { return f(1); }", 0, api.OK},
		{"func f(a) { return g(); } func g() { return 1; }", 0, api.ErrName},
		{"func f(v) { return 1; }", 0, api.ErrName},
		{"func f(a, a) { return 1; }", 0, api.ErrName},
		{"func f(a) { if (a) { return 1; } }", 0, api.ErrReturn},
		{"func f(a) { if (a) { var b = 1; } return b; }", 0, api.ErrName},
		{"func f(a) { v = 1; return v; }", 0, api.ErrName},
	} {
		checkFuncs(t, c.text, parsed(t, c.text), []string{"v", "w"}, c.at, c.want)
	}
}

// P9.1: the index is that of the first function with a static error.
func TestFirstFunction(t *testing.T) {
	good := "func NAME(a) { return a; } "
	for wrong, want := range map[string]api.Errno{
		"func NAME(a) { return b; } ": api.ErrName, "func NAME(a, a) { return 1; } ": api.ErrName, "func w() { return 1; } ": api.ErrName,
		"func NAME() { return e0(); } ": api.ErrCount, "func NAME() { } ": api.ErrReturn,
	} {
		for first := 1; first < 8; first++ {
			for second := first + 1; second <= 8; second++ {
				text := ""
				for k := range 8 {
					one := good
					if k == first {
						one = wrong
					}
					if k == second {
						one = "func NAME() { return NAME(); } "
					}
					text += strings.ReplaceAll(one, "NAME", "e"+strconv.Itoa(k))
				}
				checkFuncs(t, text, parsed(t, text), []string{"v", "w"}, first, want)
			}
		}
	}
}

// P9.1: names of functions are new ones among the given names and the functions.
func TestNamesOfFunctions(t *testing.T) {
	for _, c := range []struct {
		text string
		at   int
		want api.Errno
	}{
		{"", 0, api.OK},
		{"func v() { return 1; }", 0, api.ErrName},
		{"func f() { return 1; } func w() { return 1; }", 1, api.ErrName},
		{"func f() { return 1; } func g() { return 1; } func f() { return 1; }", 2, api.ErrName},
		{"func f() { return 1; } func f(a) { return 1; }", 1, api.ErrName},
		{"func V() { return 1; } func vv() { return 1; } func F() { return 1; } func f() { return F(); }", 0, api.OK},
		{"func f(a) { var b = a; return b; } func a(b) { return f(b); } func b() { return a(1); }", 0, api.OK},
	} {
		checkFuncs(t, c.text, parsed(t, c.text), []string{"v", "w"}, c.at, c.want)
	}
}

// P9.1: parameters are no given names, and stand once; they may be called as functions are, also as their own one.
func TestParameters(t *testing.T) {
	for text, want := range map[string]api.Errno{
		"func f(a, b, c, d) { return a + b + c + d; }":                  api.OK,
		"func f(f) { return f; }":                                       api.OK,
		"func f(a, f) { f = a; return f; }":                             api.OK,
		"func f(g) { return g; } func g(f) { return f(f); }":            api.OK,
		"func f(a) { return a; } func g(a) { return a; }":               api.OK,
		"func f(w) { return 1; }":                                       api.ErrName,
		"func f(a, b, v) { return 1; }":                                 api.ErrName,
		"func f(a, b, c, a) { return 1; }":                              api.ErrName,
		"func f(a, b, c, c) { return 1; }":                              api.ErrName,
		"func f(a, b, b, c) { return 1; }":                              api.ErrName,
		"func f(f, f) { return 1; }":                                    api.ErrName,
		"func f(f) { return f(f); }":                                    api.ErrName,
		"func f(a, g) { return g(a); } func g(a) { return a; }":         api.ErrName,
		"func f(a) { return a; } func g(f, b) { return f(b) + f + b; }": api.OK,
	} {
		checkFuncs(t, text, parsed(t, text), []string{"v", "w"}, 0, want)
	}
	text := "func f(a, b) { return a; } func g(c) { return a; }"
	checkFuncs(t, text, parsed(t, text), []string{"v", "w"}, 1, api.ErrName)
	text = "func f(a) { var b = a; return b; } func g(c) { return b; }"
	checkFuncs(t, text, parsed(t, text), []string{"v", "w"}, 1, api.ErrName)
	text = "func f(a) { var b = a; return b; } func g(b) { var a = b; return a; } func h() { var a = 1; var b = 1; return a; }"
	checkFuncs(t, text, parsed(t, text), []string{"v", "w"}, 0, api.OK)
}

// P9.1: a local variable is known behind the statement that makes it, in its list and in the lists there.
func TestWhereLocalVariablesAreKnown(t *testing.T) {
	checkBodies(t, api.OK,
		"var b = 1; return b;",
		"var b = 1; var c = b; b = c; c = b; return b + c;",
		"var b = 1; if (b) { b = b + 1; } else { b = b + 2; } while (b) { b = b - 1; } return b;",
		"var b = 1; while (a) { if (b) { while (b) { b = 1; var c = b; } } } return 1;",
		"while (a) { var b = 1; b = b; } return 1;",
		"if (a) { return 1; } else { var b = 1; return b; }",
		"return 1; var b = 1; b = 2; return b;",
		"var f = 1; return f;",
	)
	checkBodies(t, api.ErrName,
		"return b;", "return 1; return b;", "b = 1; return 1;", "b = b; return 1;", "b = 1; var b = 1; return b;", "return b; var b = 1;",
		"if (b) { return 1; } var b = 1; return 1;",
		"while (a) { var b = 1; } return b;",
		"while (a) { var b = 1; } b = 1; return 1;",
		"while (b) { var b = 0; } return 1;",
		"if (b) { var b = 0; } return 1;",
		"if (a) { var b = 1; } else { b = 2; } return 1;",
		"if (a) { b = 2; } else { var b = 1; } return 1;",
		"if (a) { var b = 1; } if (a) { b = 1; } return 1;",
		"if (a) { if (a) { var b = 1; } a = b; } return 1;",
		"while (a) { a = b; var b = 1; } return 1;",
		"if (a) { a = b; } var b = 1; return 1;",
	)
}

// P9.1: the value of a StVar is evaluated before the variable is there.
func TestValuesOfNewVariables(t *testing.T) {
	checkBodies(t, api.ErrName, "var b = b; return 1;", "var b = b + 1; return 1;", "while (a) { var b = !b; } return 1;", "var b = f(b); return 1;")
	checkBodies(t, api.OK, "var b = a; return 1;", "var b = v; return 1;", "if (a) { var b = 1; } var b = a; return b;")
}

// P9.1: a StVar makes a name that is not known there.
func TestNewNames(t *testing.T) {
	checkBodies(t, api.ErrName,
		"var v = 1; return 1;", "var w = 1; return 1;", "var a = 1; return 1;", "var b = 1; var b = 1; return 1;",
		"var b = 1; var c = 1; b = 2; var b = 1; return 1;",
		"var b = 1; if (a) { var b = 1; } return 1;", "var b = 1; if (a) { } else { var b = 1; } return 1;",
		"var b = 1; while (a) { if (a) { var c = 1; while (c) { var b = 1; } } } return 1;",
		"while (a) { var a = 1; } return 1;", "if (a) { var v = 1; } return 1;", "while (a) { var b = 1; if (b) { var b = 1; } } return 1;",
		"return 1; var a = 1;", "if (a) { var b = 1; } var b = 1; var b = 1; return 1;",
	)
	checkBodies(t, api.OK,
		"if (a) { var b = 1; } var b = 2; return b;", "if (a) { var b = 1; } else { var b = 2; } var b = 3; return b;",
		"while (a) { var b = 1; } while (a) { var b = 1; } if (a) { while (a) { var b = 1; } var b = 2; } var b = 3; return b;",
		"var b = 1; if (a) { var c = 1; } var c = b; return c;",
	)
}

// P9.1: a StSet has a parameter or a local variable that is known; given names and functions are neither.
func TestSetNames(t *testing.T) {
	checkBodies(t, api.OK, "a = v; return a;", "var b = 1; b = 2; return 1;", "while (a) { a = a - 1; } return 1;", "if (a) { a = 1; } else { a = 2; } return 1;")
	checkBodies(t, api.ErrName,
		"v = 1; return 1;", "w = 1; return 1;", "f = 1; return 1;", "x = 1; return 1;", "while (a) { v = 1; } return 1;",
		"if (a) { } else { w = 1; } return 1;", "return 1; v = 1;", "var b = 1; v = b; return 1;",
	)
	text := "func f() { return 1; } func g(a) { f = 1; return 1; }"
	checkFuncs(t, text, parsed(t, text), nil, 1, api.ErrName)
}

// P9.1: the body returns if it contains a return, or a choice both of whose lists return.
func TestReturns(t *testing.T) {
	checkBodies(t, api.OK,
		"return 1;", "a = 1; return 1; a = 2;", "return 1; if (a) { }", "return 1; return 2;",
		"if (a) { return 1; } return 1;", "if (a) { return 1; } else { return 2; }", "if (a) { a = 1; } else { } return 1;",
		"if (a) { return 1; } else { return 2; } a = 1;", "while (a) { } return 1;",
		"if (a) { if (a) { return 1; } else { return 2; } } else { a = 1; return 3; a = 2; }",
		"if (a) { return 1; } else { while (a) { } if (a) { return 1; } else { return 2; } }",
		"if (a) { if (a) { } return 1; } else { if (a) { return 1; } else { } return 2; }",
	)
	checkBodies(t, api.ErrReturn,
		"", "a = 1;", "var b = 1;", "if (a) { return 1; }", "if (a) { } else { return 1; }", "if (a) { } else { }", "while (a) { return 1; }", "while (1) { }",
		"if (a) { return 1; } else { a = 1; }", "if (a) { a = 1; } else { return 1; }", "if (a) { return 1; } else { while (a) { return 1; } }",
		"if (a) { return 1; } if (a) { return 1; }", "if (a) { return 1; } if (a) { } else { return 1; }",
		"if (a) { if (a) { return 1; } } else { return 1; }", "if (a) { return 1; } else { if (a) { return 1; } else { } }",
		"while (a) { if (a) { return 1; } else { return 2; } }", "if (1) { return 1; }",
	)
}

// P9.1: of a function the first error in order.
func TestFirstErrorOfAFunction(t *testing.T) {
	few := "func e(a) { return a; } "
	for text, want := range map[string]api.Errno{
		"func e() { return e(); }":                                    api.ErrName,
		"func v() { return e(); }":                                    api.ErrName,
		"func f(v) { return e(); }":                                   api.ErrName,
		"func f(a, a) { }":                                            api.ErrName,
		"func f() { b = e(); return 1; }":                             api.ErrCount,
		"func f() { var v = e(); return 1; }":                         api.ErrCount,
		"func f() { var v = 1; return e(); }":                         api.ErrName,
		"func f() { v = 1; return e(); }":                             api.ErrName,
		"func f() { return e(); v = 1; }":                             api.ErrCount,
		"func f() { return e(); return b; }":                          api.ErrCount,
		"func f() { if (e()) { return b; } }":                         api.ErrCount,
		"func f() { if (b) { return e(); } }":                         api.ErrName,
		"func f() { if (1) { return b; } else { return e(); } }":      api.ErrName,
		"func f() { if (1) { return e(); } else { return b; } }":      api.ErrCount,
		"func f() { if (1) { } else { return e(); } return b; }":      api.ErrCount,
		"func f() { if (1) { } else { return b; } return e(); }":      api.ErrName,
		"func f() { while (e()) { return b; } }":                      api.ErrCount,
		"func f() { while (b) { return e(); } }":                      api.ErrName,
		"func f() { while (1) { return e(); } return b; }":            api.ErrCount,
		"func f() { while (1) { while (1) { return e(); } b = 1; } }": api.ErrCount,
		"func f() { b = 1; }":                                         api.ErrName,
		"func f() { var b = e(); }":                                   api.ErrCount,
		"func f() { while (1) { e = 1; } }":                           api.ErrName,
	} {
		checkFuncs(t, few+text, parsed(t, few+text), []string{"v", "w"}, 1, want)
	}
}

// P9.1: the given names may be any texts.
func TestAnyNames(t *testing.T) {
	text := "func f(a) { var b = v; a = b; return a; }"
	l := parsed(t, text)
	odd := []string{"", "if", "return", "1", "a b", "a ", " a", "\x00", "\xff", "func f(", "A", "é", "a\x00", strings.Repeat("a", 17), strings.Repeat("b", 100000)}
	for _, names := range [][]string{
		{"v"}, {"v", "v"}, {"v", "x", "v", "x", "v"}, append([]string{"v"}, odd...), append(odd[:len(odd):len(odd)], "v"), append(slices.Concat(odd, odd), "v", "v"),
	} {
		checkFuncs(t, text, l, names, 0, api.OK)
		for _, s := range []string{"f", "a", "b"} {
			checkFuncs(t, text, l, append(slices.Clone(names), s), 0, api.ErrName)
			checkFuncs(t, text, l, append([]string{s}, names...), 0, api.ErrName)
		}
	}
	for _, names := range [][]string{nil, {}, {""}, {"V"}, {"vv"}, {"v "}, odd} {
		checkFuncs(t, text, l, names, 0, api.ErrName)
	}
	var many []string
	for k := range 100000 {
		many = append(many, "v"+strconv.Itoa(k))
	}
	checkFuncs(t, text, l, many, 0, api.ErrName)
	checkFuncs(t, text, l, append(many, "v"), 0, api.OK)
	checkFuncs(t, "no functions", nil, many, 0, api.OK)
}

// P9.1: what code.CheckFuncs says comes first, with the index 0.
func TestErrorsOfCheckFuncs(t *testing.T) {
	unnamed, good := api.Func{}, function("f", nil, gives(num(1)))
	static := function("g", nil, gives(name("x")))
	for _, l := range [][]api.Func{
		{unnamed}, {{Name: "f"}, {}}, {good, unnamed}, {static, unnamed}, {good, static, unnamed}, {good, function("if", nil, gives(num(1)))},
		{good, function("g", []string{"a", "1"}, gives(num(1)))}, {static, function("h", nil, api.Stmt{Kind: 6, Val: num(1)})},
		{static, function("h", nil, gives(api.Exp{}))}, {function("g", nil), function("h", nil, gives(num(1<<31+1)))},
	} {
		checkFuncs(t, short(l), l, []string{"v"}, 0, api.ErrArg)
	}
	for _, l := range [][]api.Func{
		slices.Repeat([]api.Func{good}, 9), slices.Repeat([]api.Func{static}, 9), {static, function("h", []string{"a", "a", "a", "a", "a"})},
		{static, function("h", nil, slices.Repeat([]api.Stmt{gives(num(1))}, 200)...)}, {static, function("h", nil, gives(call("f", num(1), num(1), num(1), num(1), num(1))))},
	} {
		checkFuncs(t, short(l), l, []string{"v"}, 0, api.ErrLong)
	}
	l := append(slices.Repeat([]api.Func{static}, 9), unnamed)
	checkFuncs(t, "many", l, nil, 0, api.ErrArg)
	circle := []api.Stmt{loop(num(1)), gives(name("x"))}
	circle[0].Body = circle
	checkFuncs(t, "a circle", []api.Func{static, function("h", nil, circle...)}, nil, 0, api.ErrLong)
}

// P9.1: functions that are as large as may be.
func TestLargeFunctions(t *testing.T) {
	body := slices.Repeat([]api.Stmt{sets("a", num(1))}, 199)
	l := []api.Func{function("f", []string{"a", "b", "c", "d"}, append(body, gives(name("d")))...)}
	checkFuncs(t, "400 nodes", l, nil, 0, api.OK)
	body[198] = sets("a", name("e"))
	checkFuncs(t, "400 nodes", []api.Func{function("f", l[0].Params, append(body, gives(num(1)))...)}, nil, 0, api.ErrName)
	for _, last := range []string{"b1", "b28", "a", "v"} {
		deep := []api.Stmt{gives(name(last))}
		for k := 28; k > 0; k-- {
			deep = []api.Stmt{makes("b"+strconv.Itoa(k), num(1)), choose(num(1), deep, []api.Stmt{gives(name("v"))})}
		}
		checkFuncs(t, "30 deep", []api.Func{function("f", []string{"a"}, deep...)}, []string{"v"}, 0, api.OK)
		checkFuncs(t, "30 deep", []api.Func{function("f", []string{"a"}, deep...)}, []string{"v", "b28"}, 0, api.ErrName)
		checkFuncs(t, "30 deep", []api.Func{function("f", []string{"a"}, append(deep, sets("b2", num(1)))...)}, []string{"v"}, 0, api.ErrName)
	}
	var eight []api.Func
	for k := range 8 {
		value := num(1)
		if k > 0 {
			value = call("f"+strconv.Itoa(k-1), name("a"), name("b"), name("c"), name("d"))
		}
		eight = append(eight, function("f"+strconv.Itoa(k), []string{"a", "b", "c", "d"}, gives(value)))
	}
	checkFuncs(t, "8 functions", eight, []string{"v"}, 0, api.OK)
}

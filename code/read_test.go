package code

import (
	"math"
	"strings"
	"testing"

	"foliot/api"
)

// readFails checks the same error of ReadExp and ReadFunc.
func readFails(t *testing.T, text string, from, want int, wantE api.Errno) {
	t.Helper()
	x, at, e := ReadExp(text, from)
	checkExp(t, "ReadExp", text, x, at, e, api.Exp{}, want, wantE)
	f, at, e := ReadFunc(text, from)
	checkFuncs(t, "ReadFunc", text, funcs(f), at, e, funcs(api.Func{}), want, wantE)
}

// P8.3: places outside the text, then texts that are too long.
func TestReadArguments(t *testing.T) {
	long := strings.Repeat("x", 20001)
	for _, text := range []string{"", "x", "func f() { }", "@", long} {
		for _, at := range []int{-1, math.MinInt, len(text) + 1, len(text) + 1000, math.MaxInt} {
			readFails(t, text, at, 0, api.ErrArg)
		}
	}
	for _, at := range []int{0, 1, 20000, 20001} {
		readFails(t, long, at, 0, api.ErrLong)
		readFails(t, strings.Repeat(" ", 20000)+"@", at, 0, api.ErrLong)
	}
	for _, text := range []string{"", "x", " x", strings.Repeat("x", 20000)} {
		readFails(t, text, len(text), len(text), api.ErrSyntax)
	}
}

// P8.3: an expression has all tokens that may belong to it, and no others.
func TestReadExp(t *testing.T) {
	a, b, x := name("a"), name("b"), name("x")
	for _, c := range []struct {
		text     string
		from, at int
		want     api.Exp
	}{
		{"x + 1 ; y", 0, 6, exp(api.ExAdd, x, num(1))}, {"x = 1", 0, 2, x}, {"x", 0, 1, x}, {"x @", 0, 2, x}, {"x@", 0, 1, x}, {"x \xff", 0, 2, x},
		{"x  // end", 0, 9, x}, {"x // @\n @", 0, 8, x}, {"x // @\n y", 0, 8, x},
		{"do v = a < b < c", 6, 13, exp(api.ExLt, a, b)}, {"a == b == a", 0, 7, exp(api.ExEq, a, b)}, {"x if", 0, 2, x}, {"x 01", 0, 2, x},
		{"x 5", 0, 2, x}, {"x " + tooLongName, 0, 2, x}, {"x -> y", 0, 2, x}, {"1..2", 0, 1, num(1)}, {"x | y", 0, 2, x}, {"x & y", 0, 2, x},
		{"x ! y", 0, 2, x}, {"x != y", 0, 6, exp(api.ExNe, x, name("y"))},
		{"x)", 0, 1, x}, {"(x))", 0, 3, x}, {"1(2)", 0, 1, num(1)}, {"(x)(1)", 0, 3, x}, {"x()()", 0, 3, call("x")}, {"x : y", 0, 2, x},
		{"a ? b : x : a", 0, 10, exp(api.ExIf, a, b, x)}, {"x, y", 0, 1, x}, {"-1 1", 0, 3, num(-1)}, {"x {", 0, 2, x}, {"x;", 0, 1, x},
		{"x}", 0, 1, x},
		{"abx", 2, 3, x}, {"// x\nx", 2, 5, x}, {"a // x", 2, 6, api.Exp{}}, {"a--1", 1, 4, exp(api.ExNeg, num(-1))}, {"a--1", 2, 4, num(-1)},
		{"101", 1, 1, api.Exp{}}, {"101", 2, 3, num(1)}, {"  x  ", 1, 5, x}, {"if (x) {", 3, 7, x}, {"a+x  ", 2, 5, x}, {"a<=x", 2, 2, api.Exp{}},
	} {
		wantE := api.OK
		if c.want.Kind == 0 {
			wantE = api.ErrSyntax
		}
		got, at, e := ReadExp(c.text, c.from)
		checkExp(t, "ReadExp", c.text, got, at, e, c.want, c.at, wantE)
	}
	for text, at := range map[string]int{
		"x + ;": 4, "x + @": 4, "x +": 3, "x (": 3, "x (y;": 4, "x ? y": 5, "x ? y }": 6, "(x": 2, "@": 0, "x - 01": 4, "x < if": 4,
		"x(1,)": 4, "x ? @": 4, "-0": 1, "x - > y": 4, "+": 0, "if x": 0,
	} {
		got, place, e := ReadExp(text, 0)
		checkExp(t, "ReadExp", text, got, place, e, api.Exp{}, at, api.ErrSyntax)
		got, place, e = ReadExp("a b; "+text, 5)
		checkExp(t, "ReadExp", "a b; "+text, got, place, e, api.Exp{}, at+5, api.ErrSyntax)
	}
}

// P8.3: a function ends with its brace.
func TestReadFunc(t *testing.T) {
	empty := function("f", nil)
	for _, c := range []struct {
		text     string
		from, at int
		want     api.Func
	}{
		{"x func g() { return 1; } func", 2, 25, function("g", nil, gives(num(1)))}, {"func f(){}", 0, 10, empty}, {"func f(){}@", 0, 10, empty},
		{"func f(){} @", 0, 11, empty}, {"func f(){}}", 0, 10, empty}, {"func f(){} // end", 0, 17, empty}, {"func f(){} process", 0, 11, empty},
		{"func f(){}else", 0, 10, empty},
		{"func f(){} func g(){}", 10, 21, function("g", nil)},
		{"func f(a, b) { if (a) { } } else", 0, 28, function("f", []string{"a", "b"}, choose(name("a"), nil, nil))},
		{"func func f(){}", 4, 15, empty},
	} {
		f, at, e := ReadFunc(c.text, c.from)
		checkFuncs(t, "ReadFunc", c.text, funcs(f), at, e, funcs(c.want), c.at, api.OK)
	}
	for text, at := range map[string]int{
		"": 0, " ": 1, "f": 0, "@": 0, "func": 4, "func @": 5, "func f() { a = 1; ": 18, "func f() { a = 1 @ }": 17,
		"func f(a,) { }": 9, "process": 0, "x": 0,
	} {
		f, place, e := ReadFunc("a b; "+text, 4)
		checkFuncs(t, "ReadFunc", text, funcs(f), place, e, funcs(api.Func{}), at+5, api.ErrSyntax)
	}
}

// P8.3: trees that are not small, whatever stands behind them, but not before what is wrong.
func TestReadNotSmall(t *testing.T) {
	for _, text := range []string{strings.Repeat("!", 30) + "a", "f(1,2,3,4,5)", strings.Repeat("1+", 200) + "1"} {
		for _, behind := range []string{"", " ", " @", ";", " x", " 01"} {
			x, at, e := ReadExp("; "+text+behind, 1)
			checkExp(t, "ReadExp", text+behind, x, at, e, api.Exp{}, 0, api.ErrLong)
		}
		x, at, e := ReadExp("; "+text+"+@", 1)
		checkExp(t, "ReadExp", text+"+@", x, at, e, api.Exp{}, len(text)+3, api.ErrSyntax)
	}
	for _, text := range []string{"func f(a,b,c,d,e){}", "func f(){return " + strings.Repeat("!", 29) + "a;}", "func f(){" + strings.Repeat("a=1;", 201) + "}"} {
		for _, behind := range []string{"", " ", "@", "}", "func"} {
			f, at, e := ReadFunc(";"+text+behind, 1)
			checkFuncs(t, "ReadFunc", text+behind, funcs(f), at, e, funcs(api.Func{}), 0, api.ErrLong)
		}
		text = text[:len(text)-1]
		f, at, e := ReadFunc(";"+text+"@", 1)
		checkFuncs(t, "ReadFunc", text+"@", funcs(f), at, e, funcs(api.Func{}), len(text)+1, api.ErrSyntax)
	}
	f, at, e := ReadFunc("func f(){"+strings.Repeat("a=1;", 200)+"}"+strings.Repeat("func f(){}", 9), 0)
	if at != 810 || e != api.OK || len(f.Body) != 200 {
		t.Errorf("a small function: %d statements, %d, %d", len(f.Body), at, e)
	}
}

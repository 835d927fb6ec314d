package code

import (
	"fmt"
	"math"
	"slices"
	"strings"
	"testing"

	"foliot/api"
)

// eachCheck calls f with the results of all functions that check an expression,
// by itself and as the value of a statement.
func eachCheck(x api.Exp, f func(what string, e api.Errno)) {
	f("CheckExp", CheckExp(x))
	text, e := PrintExp(x)
	if e != api.OK && text != "" {
		f("PrintExp with a text", -1)
	}
	f("PrintExp", e)
	for what, s := range map[string]api.Stmt{"StVar": makes("v", x), "StSet": sets("v", x), "StReturn": gives(x), "StIf": choose(x, nil, nil), "StWhile": loop(x)} {
		f("CheckFuncs with "+what, CheckFuncs(funcs(function("f", nil, s))))
	}
}

// short returns the beginning of a value's text.
func short(x any) string {
	text := fmt.Sprint(x)
	return text[:min(200, len(text))]
}

func checkErrno(t *testing.T, x any, what string, got, want api.Errno) {
	t.Helper()
	if got != want {
		t.Errorf("%s of %s: %d, want %d", what, short(x), got, want)
	}
}

// P8.1, P8.4: expressions that are well-formed.
func TestWellFormed(t *testing.T) {
	one := num(1)
	good := []api.Exp{
		num(0), num(1 << 31), num(-1 << 31), name("a"), name(longestName), call("f"), call(longestName, one, one, one, one),
		{Kind: api.ExInt, Args: []api.Exp{}}, {Kind: api.ExName, Name: "a", Args: []api.Exp{}},
	}
	for kind, count := range partsOf {
		good = append(good, exp(kind, slices.Repeat([]api.Exp{one}, count)...))
	}
	for _, x := range good {
		eachCheck(x, func(what string, e api.Errno) { checkErrno(t, x, what, e, api.OK) })
	}
}

// wrongExps returns expressions that are not well-formed.
func wrongExps() []api.Exp {
	one := num(1)
	wrong := []api.Exp{
		{}, {Kind: -1}, {Kind: 20}, {Kind: math.MaxInt}, {Kind: math.MinInt}, {Kind: 20, Args: []api.Exp{one, one}},
		{Kind: 20, Args: []api.Exp{one, one, one}},
		{Kind: 0, Int: 1}, {Kind: 0, Name: "a"}, {Name: "f", Args: []api.Exp{one}},
		num(1<<31 + 1), num(-1<<31 - 1), num(math.MaxInt64), num(math.MinInt64),
		{Kind: api.ExInt, Name: "a"}, {Kind: api.ExInt, Name: "1", Int: 1}, {Kind: api.ExInt, Int: 1, Args: []api.Exp{one}},
		{Kind: api.ExName, Name: "a", Int: 1}, {Kind: api.ExName, Name: "a", Args: []api.Exp{one}},
		{Kind: api.ExCall, Name: "f", Int: 1}, {Kind: api.ExCall, Name: "f", Int: -1, Args: []api.Exp{one}},
	}
	for _, s := range append(strings.Fields(reservedWords), "", "1", "_", "a b", "a-b", tooLongName) {
		wrong = append(wrong, name(s), call(s), call(s, one))
	}
	for kind, count := range partsOf {
		for n := range 6 {
			if n != count {
				wrong = append(wrong, exp(kind, slices.Repeat([]api.Exp{one}, n)...))
			}
		}
		right := exp(kind, slices.Repeat([]api.Exp{one}, count)...)
		named, numbered := right, right
		named.Name, numbered.Int = "a", 1
		wrong = append(wrong, named, numbered)
	}
	return wrong
}

// P8.1, P8.4: expressions that are not well-formed, by themselves and in each part of others.
func TestNotWellFormed(t *testing.T) {
	for _, x := range wrongExps() {
		eachCheck(x, func(what string, e api.Errno) { checkErrno(t, x, what, e, api.ErrArg) })
		for kind, count := range partsOf {
			for k := range count {
				parts := slices.Repeat([]api.Exp{num(1)}, count)
				parts[k] = x
				y := exp(api.ExNot, exp(kind, parts...))
				eachCheck(y, func(what string, e api.Errno) { checkErrno(t, y, what, e, api.ErrArg) })
			}
		}
		for k := range 4 {
			parts := slices.Repeat([]api.Exp{num(1)}, 4)
			parts[k] = x
			checkErrno(t, x, "CheckExp in a call", CheckExp(call("f", parts...)), api.ErrArg)
		}
	}
}

// checkBody checks a list of statements as the body of a function.
func checkBody(t *testing.T, want api.Errno, body ...api.Stmt) {
	t.Helper()
	l := funcs(function("f", nil, body...))
	checkErrno(t, body, "CheckFuncs", CheckFuncs(l), want)
	text, e := PrintFuncs(l)
	checkErrno(t, body, "PrintFuncs", e, want)
	if (text == "") != (want != api.OK) {
		t.Errorf("the text of %s is %q", short(body), text)
	}
}

// wrongStmts returns statements that are not well-formed.
func wrongStmts() []api.Stmt {
	one, some := num(1), stmts(gives(num(1)))
	wrong := []api.Stmt{
		{}, {Kind: -1, Val: one}, {Kind: 0, Val: one}, {Kind: 6, Val: one}, {Kind: math.MaxInt, Val: one}, {Kind: math.MinInt, Val: one},
		{Kind: api.StVar, Name: "v"}, {Kind: api.StSet, Name: "v"}, {Kind: api.StIf}, {Kind: api.StWhile}, {Kind: api.StReturn},
		{Kind: api.StIf, Name: "a", Val: one}, {Kind: api.StWhile, Name: "a", Val: one}, {Kind: api.StReturn, Name: "a", Val: one},
		{Kind: api.StVar, Name: "v", Val: one, Body: some}, {Kind: api.StSet, Name: "v", Val: one, Body: some},
		{Kind: api.StReturn, Val: one, Body: some},
		{Kind: api.StVar, Name: "v", Val: one, Else: some}, {Kind: api.StSet, Name: "v", Val: one, Else: some},
		{Kind: api.StReturn, Val: one, Else: some},
		{Kind: api.StWhile, Val: one, Else: some}, {Kind: api.StWhile, Val: one, Body: some, Else: some},
	}
	for _, s := range append(strings.Fields(reservedWords), "", "1", "_", tooLongName) {
		wrong = append(wrong, makes(s, one), sets(s, one))
	}
	return wrong
}

// P8.1, P8.4: statements, also within others, behind others and in later functions.
func TestStatements(t *testing.T) {
	one, none := num(1), []api.Stmt{}
	for _, s := range []api.Stmt{
		makes("v", one), sets("v", one), gives(one), loop(one), loop(one, gives(one)), choose(one, nil, nil),
		choose(one, stmts(gives(one)), nil), choose(one, nil, stmts(gives(one))), choose(one, stmts(gives(one)), stmts(gives(one))),
		{Kind: api.StVar, Name: "v", Val: one, Body: none, Else: none}, {Kind: api.StWhile, Val: one, Body: none, Else: none},
		{Kind: api.StReturn, Val: one, Body: none, Else: none}, {Kind: api.StIf, Val: one, Body: none, Else: none},
	} {
		checkBody(t, api.OK, s)
		checkBody(t, api.OK, s, s)
	}
	for _, s := range wrongStmts() {
		checkBody(t, api.ErrArg, s)
		checkBody(t, api.ErrArg, gives(one), s)
		checkBody(t, api.ErrArg, loop(one, gives(one), s), gives(one))
		checkBody(t, api.ErrArg, choose(one, stmts(s), nil))
		checkBody(t, api.ErrArg, choose(one, nil, stmts(gives(one), s)))
		checkBody(t, api.ErrArg, loop(one, loop(one, choose(one, stmts(gives(one)), stmts(s)))))
		l := funcs(function("f", nil, gives(one)), function("g", nil, s))
		checkErrno(t, l, "CheckFuncs", CheckFuncs(l), api.ErrArg)
	}
}

// P8.1, P8.4: names of functions and parameters; what is not said of them does not matter.
func TestHeads(t *testing.T) {
	for _, l := range [][]api.Func{
		nil, {}, funcs(function("f", nil)), funcs(function("f", []string{})), funcs(function(longestName, []string{longestName, "a"})),
		funcs(function("f", nil), function("f", nil)), funcs(function("f", []string{"a", "a", "f"}, gives(call("g", name("b"))), makes("a", num(1)))),
	} {
		checkErrno(t, l, "CheckFuncs", CheckFuncs(l), api.OK)
	}
	for _, s := range append(strings.Fields(reservedWords), "", "1", "_", "a,b", tooLongName) {
		for _, l := range [][]api.Func{
			funcs(function(s, nil)), funcs(function("f", []string{s})), funcs(function("f", []string{"a", "b", "c", s})),
			funcs(function("f", nil), function("g", []string{"a", s, "c"})),
		} {
			checkErrno(t, l, "CheckFuncs", CheckFuncs(l), api.ErrArg)
			text, e := PrintFuncs(l)
			checkText(t, l, text, e, "", api.ErrArg)
		}
	}
	l := funcs(api.Func{})
	checkErrno(t, l, "CheckFuncs", CheckFuncs(l), api.ErrArg)
}

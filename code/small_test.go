package code

import (
	"slices"
	"testing"

	"foliot/api"
)

// smallOr returns the error of what is small or not.
func smallOr(isSmall bool) api.Errno {
	if isSmall {
		return api.OK
	}
	return api.ErrLong
}

// P8.1, P8.4: expressions of up to 400 nodes, up to 30 deep, with calls of up to 4 parts.
func TestSmallExps(t *testing.T) {
	for n := 1; n < 1000; n++ {
		x := balanced(n)
		if size(x) != n || depth(x) > 15 {
			t.Fatalf("%d nodes, %d deep", size(x), depth(x))
		}
		checkErrno(t, n, "CheckExp of nodes", CheckExp(x), smallOr(n <= 400))
		_, e := PrintExp(x)
		checkErrno(t, n, "PrintExp of nodes", e, smallOr(n <= 400))
	}
	for n := 1; n < 100; n++ {
		checkErrno(t, n, "CheckExp of depth", CheckExp(nested(n)), smallOr(n <= 30))
		for k := range 3 {
			parts := []api.Exp{num(1), num(1), num(1)}
			parts[k] = nested(n)
			checkErrno(t, n, "CheckExp of depth in a part", CheckExp(exp(api.ExIf, parts...)), smallOr(n <= 29))
		}
	}
	for n := range 10 {
		args := slices.Repeat([]api.Exp{num(1)}, n)
		checkErrno(t, n, "CheckExp of parts of a call", CheckExp(call("f", args...)), smallOr(n <= 4))
		x := exp(api.ExAdd, num(1), exp(api.ExNeg, call("f", num(1), call("g", args...))))
		checkErrno(t, n, "CheckExp of parts of a call in it", CheckExp(x), smallOr(n <= 4))
	}
}

// P8.1: statements and expressions count together, of all functions.
func TestSmallNodes(t *testing.T) {
	for n := 1; n < 450; n++ {
		checkBody(t, smallOr(n+1 <= 400), gives(balanced(n)))
		checkBody(t, smallOr(n+7 <= 400), choose(num(1), stmts(gives(balanced(n))), stmts(makes("v", name("a")), gives(num(1)))))
		l := funcs(function("f", nil, gives(balanced(198))), function("g", nil), function("h", []string{"a"}, gives(balanced(n))))
		checkErrno(t, n, "CheckFuncs of several functions", CheckFuncs(l), smallOr(199+n+1 <= 400))
	}
	for n := range 250 {
		body := slices.Repeat(stmts(sets("v", num(1))), n)
		checkBody(t, smallOr(2*n <= 400), body...)
		checkBody(t, smallOr(2*n+2 <= 400), loop(num(1), body...))
		checkBody(t, smallOr(2*n+2 <= 400), choose(num(1), body, nil))
		checkBody(t, smallOr(2*n+2 <= 400), choose(num(1), nil, body))
	}
}

// P8.1: a function's statements have the depth 1, and what is in a statement is one deeper.
func TestSmallDepth(t *testing.T) {
	for n := 2; n < 50; n++ {
		s := nestedStmt(n)
		checkBody(t, smallOr(n <= 30), s)
		checkBody(t, smallOr(n+1 <= 30), choose(num(1), stmts(s), nil))
		checkBody(t, smallOr(n+1 <= 30), gives(num(1)), choose(num(1), nil, stmts(gives(num(1)), s)))
		checkBody(t, smallOr(n+1 <= 30), gives(nested(n)))
		checkBody(t, smallOr(n+1 <= 30), makes("v", nested(n)))
		checkBody(t, smallOr(n+1 <= 30), sets("v", nested(n)))
		checkBody(t, smallOr(n+1 <= 30), loop(nested(n)))
		checkBody(t, smallOr(n+2 <= 30), choose(num(1), nil, stmts(gives(nested(n)))))
	}
}

// P8.1: up to 8 functions, with up to 4 parameters each.
func TestSmallFuncs(t *testing.T) {
	for n := range 20 {
		checkErrno(t, n, "CheckFuncs of so many", CheckFuncs(slices.Repeat(funcs(function("f", []string{"a", "b", "c", "d"})), n)), smallOr(n <= 8))
		l := funcs(function("f", nil), function("g", slices.Repeat([]string{"a"}, n)))
		checkErrno(t, n, "CheckFuncs of parameters", CheckFuncs(l), smallOr(n <= 4))
		args := slices.Repeat([]api.Exp{num(1)}, n)
		checkBody(t, smallOr(n <= 4), loop(num(1), gives(call("f", args...))))
	}
}

// P8.1: what is not well-formed is told first, wherever it stands.
func TestErrArgFirst(t *testing.T) {
	long := []api.Exp{balanced(401), nested(31), nested(100000), call("f", slices.Repeat([]api.Exp{num(1)}, 5)...)}
	for _, x := range long {
		checkErrno(t, "what is not small", "CheckExp", CheckExp(x), api.ErrLong)
		for _, wrong := range []api.Exp{{}, num(1<<31 + 1), name("if")} {
			checkErrno(t, "what is wrong too", "CheckExp", CheckExp(exp(api.ExAdd, x, wrong)), api.ErrArg)
			checkErrno(t, "what is wrong too", "CheckExp", CheckExp(exp(api.ExAdd, wrong, x)), api.ErrArg)
			l := funcs(function("f", nil, gives(x)), function("g", nil, gives(wrong)))
			checkErrno(t, "what is wrong too", "CheckFuncs", CheckFuncs(l), api.ErrArg)
			checkErrno(t, "what is wrong too", "CheckFuncs", CheckFuncs(funcs(l[1], l[0])), api.ErrArg)
		}
	}
	deep := num(1 << 32)
	for range 100000 {
		deep = exp(api.ExNeg, deep)
	}
	checkErrno(t, "what is wrong far below", "CheckExp", CheckExp(deep), api.ErrArg)
	many := slices.Repeat(funcs(function("f", nil, gives(num(1)))), 9)
	for k := range many {
		l := slices.Clone(many)
		l[k].Params = []string{"a", "b", "c", "d", "1"}
		checkErrno(t, k, "CheckFuncs with a wrong parameter", CheckFuncs(l), api.ErrArg)
		l = slices.Clone(many)
		l[k].Body = stmts(gives(num(1)), api.Stmt{})
		checkErrno(t, k, "CheckFuncs with a wrong statement", CheckFuncs(l), api.ErrArg)
	}
}

// P8.1, P8.4, rule R1: lists that contain themselves are not small, but may be well-formed.
func TestCircles(t *testing.T) {
	for _, c := range []struct {
		other api.Exp
		want  api.Errno
	}{{num(1), api.ErrLong}, {num(1 << 32), api.ErrArg}, {api.Exp{}, api.ErrArg}} {
		x := exp(api.ExIf, num(1), num(1), c.other)
		x.Args[0] = x
		eachCheck(x, func(what string, e api.Errno) { checkErrno(t, "a circle", what, e, c.want) })
		x = exp(api.ExAdd, num(1), c.other)
		x.Args[0] = exp(api.ExNot, exp(api.ExNeg, x))
		eachCheck(x, func(what string, e api.Errno) { checkErrno(t, "a longer circle", what, e, c.want) })

		body := stmts(loop(num(1)), gives(num(1)), gives(c.other))
		body[0].Body = body
		checkBodyQuietly(t, body, c.want)
		body = stmts(choose(num(1), nil, nil), gives(c.other))
		body[0].Body, body[0].Else = body, body
		checkBodyQuietly(t, body, c.want)
	}
}

// checkBodyQuietly is checkBody for statements that must not be written down.
func checkBodyQuietly(t *testing.T, body []api.Stmt, want api.Errno) {
	t.Helper()
	l := funcs(function("f", nil, body...))
	checkErrno(t, "a circle", "CheckFuncs", CheckFuncs(l), want)
	text, e := PrintFuncs(l)
	checkText(t, "a circle", text, e, "", want)
}

// P8.1, rule R1: trees that are made of few lists, but have more parts than can be counted.
func TestSharedParts(t *testing.T) {
	for _, last := range []api.Exp{num(1), num(1 << 32)} {
		x, want := last, api.ErrLong
		if last.Int != 1 {
			want = api.ErrArg
		}
		body := stmts(gives(last))
		for range 100 {
			x = exp(api.ExIf, x, x, x)
			body = stmts(choose(num(1), body, body), choose(num(1), body, body))
		}
		checkErrno(t, "shared parts", "CheckExp", CheckExp(x), want)
		checkBodyQuietly(t, body, want)
	}
}

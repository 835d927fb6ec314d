package eval

import (
	"math"
	"slices"
	"strings"
	"testing"

	"foliot/api"
)

// P10.1, P10.2: names and values that do not belong together, or are too large.
func TestNamesAndValues(t *testing.T) {
	x := tree(t, "1")
	for _, c := range []struct {
		names  []string
		values []int64
		want   api.Errno
	}{
		{nil, nil, api.OK}, {[]string{"v"}, nil, api.ErrArg}, {nil, []int64{1}, api.ErrArg}, {[]string{}, []int64{0}, api.ErrArg},
		{[]string{"v", "w"}, []int64{1}, api.ErrArg}, {[]string{"v"}, []int64{1, 2}, api.ErrArg}, {[]string{"v", "w"}, []int64{1, 2}, api.OK},
		{[]string{"v", "v"}, []int64{1, 1}, api.ErrArg}, {[]string{"v", "w", "v"}, []int64{1, 2, 3}, api.ErrArg}, {[]string{"w", "v", "v"}, []int64{1, 2, 3}, api.ErrArg},
		{[]string{"v", "v"}, []int64{0, 0}, api.ErrArg}, {[]string{"", ""}, []int64{0, 0}, api.ErrArg}, {[]string{"if", "if"}, []int64{0, 1}, api.ErrArg},
		{[]string{"v", "V", "", " "}, []int64{0, 0, 0, 0}, api.OK}, {[]string{"if", "\x00", "\xff"}, []int64{1, 2, 3}, api.OK},
		{[]string{"v"}, []int64{greatest}, api.OK}, {[]string{"v"}, []int64{-greatest}, api.OK},
		{[]string{"v"}, []int64{greatest + 1}, api.ErrArg}, {[]string{"v"}, []int64{-greatest - 1}, api.ErrArg},
		{[]string{"v"}, []int64{math.MaxInt64}, api.ErrArg}, {[]string{"v"}, []int64{math.MinInt64}, api.ErrArg}, {[]string{"v"}, []int64{1 << 32}, api.ErrArg},
		{[]string{"v", "w"}, []int64{1, greatest + 1}, api.ErrArg}, {[]string{"v", "w", "x"}, []int64{1, -greatest - 1, 3}, api.ErrArg},
	} {
		if c.want != api.OK {
			checkRefused(t, "1", x, c.names, c.values, nil, c.want)
		} else if got := outcomeOf(t, x, c.names, c.values, nil); got != (outcome{1, api.OK, 1}) {
			t.Errorf("1 with %q, %d: %+v", c.names, c.values, got)
		}
	}
}

// P10.1: very many names.
func TestManyNames(t *testing.T) {
	many, given := []string{}, []int64{}
	for k := range 50000 {
		many, given = append(many, strings.Repeat("x", k%100)+string(rune(k+60000))), append(given, int64(k))
	}
	x := tree(t, "v")
	checkRefused(t, "v", x, many, given, nil, api.ErrName)
	many[49999] = "v"
	if got := outcomeOf(t, x, many, given, nil); got != (outcome{49999, api.OK, 1}) {
		t.Errorf("v: %+v", got)
	}
	many[0] = "v"
	checkRefused(t, "v", x, many, given, nil, api.ErrArg)
}

// broad returns an expression that is well-formed, and too large.
func broad() api.Exp {
	x := api.Exp{Kind: api.ExInt}
	for range 8 {
		x = api.Exp{Kind: api.ExAdd, Args: []api.Exp{x, x}}
	}
	return x
}

// P10.1, P10.2: the errors of names and values, then those of typed.Exp in their order.
func TestOrderOfErrors(t *testing.T) {
	good := functions(t, "func f(a) { return a; }")
	static := functions(t, "func f(a) { a = 1; }")
	long := slices.Repeat(good, 9)
	ill := []api.Func{{Name: "if"}}
	for _, c := range []struct {
		x    api.Exp
		l    []api.Func
		want api.Errno
	}{
		{api.Exp{}, good, api.ErrArg}, {api.Exp{}, long, api.ErrArg}, {api.Exp{Kind: 99}, static, api.ErrArg}, {api.Exp{Kind: -1}, nil, api.ErrArg},
		{api.Exp{Kind: api.ExInt, Int: greatest + 1}, nil, api.ErrArg}, {api.Exp{Kind: api.ExInt, Name: "v"}, nil, api.ErrArg}, {api.Exp{Kind: api.ExAdd}, nil, api.ErrArg},
		{broad(), good, api.ErrLong}, {broad(), ill, api.ErrLong}, {broad(), static, api.ErrLong},
		{tree(t, "x"), ill, api.ErrArg}, {tree(t, "x"), long, api.ErrLong}, {tree(t, "x"), static, api.ErrReturn}, {tree(t, "f()"), static, api.ErrReturn},
		{tree(t, "x"), good, api.ErrName}, {tree(t, "a"), good, api.ErrName}, {tree(t, "f"), good, api.ErrName}, {tree(t, "f()"), good, api.ErrCount}, {tree(t, "f(1, 2)"), good, api.ErrCount},
		{tree(t, "f(1)"), nil, api.ErrName}, {tree(t, "v / 0 && x"), nil, api.ErrName}, {tree(t, "1 || x"), nil, api.ErrName}, {tree(t, "1 ? 1 : f()"), good, api.ErrCount},
		{tree(t, "1"), functions(t, "func v() { return 1; }"), api.ErrName}, {tree(t, "1"), functions(t, "func f(w) { return 1; }"), api.ErrName}, {tree(t, "1"), functions(t, "func f() { return f(); }"), api.ErrName},
		{tree(t, "f(1)"), functions(t, "func f(a) { if (a) { var b = 1; } return b; }"), api.ErrName}, {tree(t, "1"), functions(t, "func f(a) { while (1) { return 1; } }"), api.ErrReturn},
	} {
		checkRefused(t, "an expression", c.x, names, values, c.l, c.want)
		checkRefused(t, "an expression", c.x, names, values[:1], c.l, api.ErrArg)
		checkRefused(t, "an expression", c.x, []string{"v", "w", "w"}, []int64{1, 2, 2}, c.l, api.ErrArg)
		checkRefused(t, "an expression", c.x, names, []int64{1, greatest + 1}, c.l, api.ErrArg)
	}
}

// P10.1, P10.2, rule R1: expressions and functions that contain themselves.
func TestCircles(t *testing.T) {
	circle := api.Exp{Kind: api.ExNot, Args: make([]api.Exp, 1)}
	circle.Args[0] = circle
	checkRefused(t, "a circle", circle, nil, nil, nil, api.ErrLong)
	body := []api.Stmt{{Kind: api.StWhile, Val: api.Exp{Kind: api.ExInt}}}
	body[0].Body = body
	checkRefused(t, "1 with a circle", tree(t, "1"), nil, nil, []api.Func{{Name: "f", Body: body}}, api.ErrLong)
}

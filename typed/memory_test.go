package typed

import (
	"fmt"
	"slices"
	"testing"

	"foliot/api"
)

// P9.1, P9.2, rule R3: arguments are not changed, with what lies behind the lengths of their lists.
func TestArgumentsAreNotChanged(t *testing.T) {
	names := []string{"v", "w", "v", "a"}
	params := []string{"a", "b", "-"}
	args := []api.Exp{name("a"), name("v"), {}}
	inner := []api.Stmt{makes("c", name("b")), sets("c", num(1)), {Kind: 77}}
	body := []api.Stmt{choose(num(1), inner[:2], nil), makes("c", call("e", args[:2]...)), gives(name("c")), {Kind: 78}}
	l := []api.Func{function("e", []string{"a", "b"}, gives(num(1))), function("f", params[:2], body[:3]...), {Name: "+"}}
	x := call("f", args[1:2]...)
	text := func() string { return fmt.Sprint(names, params, args, inner, body, l, x) }
	before := text()
	for range 2 {
		checkFuncs(t, "functions", l[:2], names[:3], 0, api.OK)
		checkFuncs(t, "functions", l[:2], names, 0, api.ErrName)
		checkFuncs(t, "functions", l, names[:3], 0, api.ErrArg)
		checkExp(t, "an expression", x, names[:3], l[:2], api.ErrCount)
		checkExp(t, "an expression", x, nil, l[:1], api.ErrName)
		if after := text(); after != before {
			t.Fatalf("the arguments are changed: %s, not %s", after, before)
		}
	}
}

// P9.1, P9.2, rule R6: nothing of an earlier call is left, whatever has become of its arguments.
func TestCallsAreIndependent(t *testing.T) {
	g := newGenerator(3, "a", "b", "c", "v", "f")
	type one struct {
		x     api.Exp
		l     []api.Func
		names []string
		at    int
		e, ex api.Errno
	}
	var all []one
	for range 3000 {
		c := one{x: g.exp(3), l: g.funcs(g.IntN(4)), names: g.params()}
		c.at, c.e = Funcs(slices.Clone(c.l), slices.Clone(c.names))
		c.ex = Exp(c.x, slices.Clone(c.names), slices.Clone(c.l))
		all = append(all, c)
	}
	names := make([]string, 2)
	l := make([]api.Func, 3)
	slices.Reverse(all)
	for _, c := range all {
		usedNames, usedFuncs := append(names[:0], c.names...), append(l[:0], c.l...)
		if at, e := Funcs(usedFuncs, usedNames); at != c.at || e != c.e {
			t.Fatalf("Funcs of %s with %s: %d, %d and then %d, %d", textOf(c.l), c.names, c.at, c.e, at, e)
		}
		if e := Exp(c.x, usedNames, usedFuncs); e != c.ex {
			t.Fatalf("Exp of %s with %s and %s: %d and then %d", short(c.x), c.names, textOf(c.l), c.ex, e)
		}
	}
}

// P9.1, P9.2, rule R4: nil and empty lists are the same.
func TestEmptyLists(t *testing.T) {
	none, noNames := []api.Stmt{}, []string{}
	empty := []api.Func{{Name: "f", Params: noNames, Body: []api.Stmt{
		{Kind: api.StVar, Name: "b", Val: api.Exp{Kind: api.ExInt, Args: []api.Exp{}}, Body: none, Else: none},
		{Kind: api.StIf, Val: api.Exp{Kind: api.ExName, Name: "b", Args: []api.Exp{}}, Body: none, Else: none},
		{Kind: api.StReturn, Val: name("b"), Body: none, Else: none},
	}}}
	for _, names := range [][]string{nil, noNames} {
		checkFuncs(t, "empty lists", empty, names, 0, api.OK)
		checkFuncs(t, "an empty body", []api.Func{{Name: "f", Params: noNames, Body: none}}, names, 0, api.ErrReturn)
		checkFuncs(t, "no functions", []api.Func{}, names, 0, api.OK)
		checkFuncs(t, "no functions", nil, names, 0, api.OK)
		checkExp(t, "a call", api.Exp{Kind: api.ExCall, Name: "f", Args: []api.Exp{}}, names, empty, api.OK)
		checkExp(t, "a call", call("f"), names, []api.Func{}, api.ErrName)
	}
}

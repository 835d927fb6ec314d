package typed

import (
	"slices"
	"testing"

	"foliot/api"
)

// eachExp calls f with each expression of a function's statements, and with all in them.
func eachExp(l []api.Stmt, f func(x api.Exp)) {
	var inside func(x api.Exp)
	inside = func(x api.Exp) {
		f(x)
		for _, y := range x.Args {
			inside(y)
		}
	}
	for _, s := range l {
		inside(s.Val)
		eachExp(s.Body, f)
		eachExp(s.Else, f)
	}
}

// ownNames returns the names of functions, parameters and local variables.
func ownNames(l []api.Func) []string {
	var names []string
	var made func(l []api.Stmt)
	made = func(l []api.Stmt) {
		for _, s := range l {
			if s.Kind == api.StVar {
				names = append(names, s.Name)
			}
			made(s.Body)
			made(s.Else)
		}
	}
	for _, f := range l {
		names = append(append(names, f.Name), f.Params...)
		made(f.Body)
	}
	return names
}

// P9.3: functions without an error call only those before them.
func TestNoCircles(t *testing.T) {
	g := newGenerator(4, "a", "b", "v")
	calls := 0
	for range 20000 {
		l := g.goodFuncs([]string{"v"}, 3)
		for k, f := range l {
			eachExp(f.Body, func(x api.Exp) {
				if x.Kind != api.ExCall {
					return
				}
				calls++
				at := slices.IndexFunc(l, func(f api.Func) bool { return f.Name == x.Name })
				if at < 0 || at >= k || len(l[at].Params) != len(x.Args) {
					t.Fatalf("%s calls %s: %s", f.Name, x.Name, textOf(l))
				}
			})
		}
	}
	if calls < 1000 {
		t.Errorf("only %d calls", calls)
	}
	for _, text := range []string{
		"func f() { return f(); }", "func f() { return g(); } func g() { return f(); }", "func f() { return g(); } func g() { return h(); } func h() { return f(); }",
		"func f() { while (0) { return f(); } return 1; }", "func f() { return 1; return f(); }",
	} {
		checkFuncs(t, text, parsed(t, text), nil, 0, api.ErrName)
	}
}

// P9.3: more names make no error, if the functions have none of them.
func TestMoreNames(t *testing.T) {
	g := newGenerator(5, "a", "b", "c", "v", "x")
	fine, clashes := 0, 0
	for range 30000 {
		names := g.params()
		l := g.goodFuncs(names, 1+g.IntN(2))
		x := g.exp(2)
		if Exp(x, names, l) != api.OK {
			continue
		}
		own := ownNames(l)
		for _, s := range []string{"a", "b", "c", "v", "x", "y", "f", "g", "h", "if", ""} {
			for k := range len(names) + 1 {
				got, want := Exp(x, slices.Insert(slices.Clone(names), k, s), l), api.OK
				if slices.Contains(own, s) {
					want = api.ErrName
					clashes++
				}
				if got != want {
					t.Fatalf("Exp of %s with %s and %q: %d, want %d; %s", short(x), names, s, got, want, textOf(l))
				}
			}
		}
		fine++
	}
	if fine < 1000 || clashes < 1000 {
		t.Errorf("only %d expressions are right, and %d names are other ones", fine, clashes)
	}
}

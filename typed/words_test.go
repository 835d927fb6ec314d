package typed

import (
	"slices"
	"testing"

	"foliot/api"
)

// The chapter once more, word for word: all static errors in order are written
// down, and what is known at a place is a list of its own for this place.
type words struct {
	given    []string
	callable []api.Func
	errors   []api.Errno
}

func (w *words) tell(wrong bool, e api.Errno) {
	if wrong {
		w.errors = append(w.errors, e)
	}
}

func (w *words) exp(x api.Exp, known []string) {
	for _, y := range x.Args {
		w.exp(y, known)
	}
	switch x.Kind {
	case api.ExName:
		w.tell(!slices.Contains(known, x.Name) && !slices.Contains(w.given, x.Name), api.ErrName)
	case api.ExCall:
		var params [][]string
		for _, f := range w.callable {
			if f.Name == x.Name {
				params = append(params, f.Params)
			}
		}
		w.tell(len(params) == 0, api.ErrName)
		w.tell(len(params) > 0 && len(params[0]) != len(x.Args), api.ErrCount)
	}
}

// list is handed the parameters and the local variables that are known where the list begins.
func (w *words) list(l []api.Stmt, known []string) {
	for k, s := range l {
		here := slices.Clone(known)
		for _, before := range l[:k] {
			if before.Kind == api.StVar {
				here = append(here, before.Name)
			}
		}
		w.exp(s.Val, here)
		if s.Kind == api.StVar {
			w.tell(slices.Contains(here, s.Name) || slices.Contains(w.given, s.Name), api.ErrName)
		}
		if s.Kind == api.StSet {
			w.tell(!slices.Contains(here, s.Name), api.ErrName)
		}
		w.list(s.Body, here)
		w.list(s.Else, here)
	}
}

func listReturns(l []api.Stmt) bool {
	returns := false
	for _, s := range l {
		returns = returns || s.Kind == api.StReturn
		returns = returns || s.Kind == api.StIf && listReturns(s.Body) && listReturns(s.Else)
	}
	return returns
}

func (w *words) function(f api.Func) {
	isEarlier := slices.ContainsFunc(w.callable, func(g api.Func) bool { return g.Name == f.Name })
	w.tell(slices.Contains(w.given, f.Name) || isEarlier, api.ErrName)
	for k, p := range f.Params {
		w.tell(slices.Contains(w.given, p) || slices.Contains(f.Params[:k], p), api.ErrName)
	}
	w.list(f.Body, f.Params)
	w.tell(!listReturns(f.Body), api.ErrReturn)
}

func funcsInWords(l []api.Func, names []string) (int, api.Errno) {
	for k, f := range l {
		w := words{given: names, callable: l[:k]}
		w.function(f)
		if len(w.errors) > 0 {
			return k, w.errors[0]
		}
	}
	return 0, api.OK
}

func expInWords(x api.Exp, names []string, l []api.Func) api.Errno {
	w := words{given: names, callable: l}
	if _, e := funcsInWords(l, names); e != api.OK {
		return e
	}
	w.exp(x, nil)
	return append(w.errors, api.OK)[0]
}

// P9.1: random functions against the document's words.
func TestFuncsInWords(t *testing.T) {
	g := newGenerator(1, "a", "b", "c", "v", "f")
	seen := map[api.Errno]int{}
	places := map[int]int{}
	for range 300000 {
		l := g.funcs(1 + g.IntN(3))
		names := [][]string{nil, {"v"}, {"v", "w"}, {"c", "v", "c"}}[g.IntN(4)]
		wantAt, want := funcsInWords(l, names)
		if at, e := Funcs(l, names); at != wantAt || e != want {
			t.Fatalf("Funcs of %s with %s: %d, %d; want %d, %d", textOf(l), names, at, e, wantAt, want)
		}
		seen[want]++
		places[wantAt]++
	}
	if min(seen[api.OK], seen[api.ErrName], seen[api.ErrCount], seen[api.ErrReturn], places[0], places[1], places[2]) < 500 {
		t.Errorf("too few of some: %v, %v", seen, places)
	}
}

// P9.2: random expressions with random functions against the document's words.
func TestExpInWords(t *testing.T) {
	g := newGenerator(2, "a", "b", "v", "w", "f")
	seen := map[api.Errno]int{}
	for range 50000 {
		names := [][]string{nil, {"v"}, {"v", "w"}, {"w", "v", "w", "a", "b"}}[g.IntN(4)]
		l := g.funcs(g.IntN(4))
		if g.IntN(4) > 0 {
			l = g.goodFuncs(nil, 1+g.IntN(3))
		}
		x := g.exp(1 + g.IntN(4))
		want := expInWords(x, names, l)
		if e := Exp(x, names, l); e != want {
			t.Fatalf("Exp of %s with %s and %s: %d, want %d", short(x), names, textOf(l), e, want)
		}
		seen[want]++
	}
	if min(seen[api.OK], seen[api.ErrName], seen[api.ErrCount], seen[api.ErrReturn]) < 500 {
		t.Errorf("too few of some: %v", seen)
	}
}

// lists calls f with all lists of statements that have count statements in all, at any depth.
func lists(count int, simple []api.Stmt, f func(l []api.Stmt)) {
	if count == 0 {
		f(nil)
	}
	for before := range count {
		lists(before, simple, func(l []api.Stmt) {
			single(count-before, simple, func(s api.Stmt) { f(append(slices.Clone(l), s)) })
		})
	}
}

// single calls f with all statements that consist of count statements.
func single(count int, simple []api.Stmt, f func(s api.Stmt)) {
	if count == 1 {
		for _, s := range simple {
			f(s)
		}
	}
	lists(count-1, simple, func(l []api.Stmt) { f(loop(name("a"), l...)) })
	for inBody := range count {
		lists(inBody, simple, func(body []api.Stmt) {
			lists(count-1-inBody, simple, func(other []api.Stmt) { f(choose(num(1), body, other)) })
		})
	}
}

// P9.1: all short lists of some statements against the document's words.
func TestAllShortLists(t *testing.T) {
	simple := []api.Stmt{makes("b", num(1)), makes("c", name("b")), sets("b", name("a")), gives(name("a")), gives(name("c")), gives(call("e"))}
	few := []api.Func{function("e", []string{"x"}, gives(num(1)))}
	seen := map[api.Errno]int{}
	for count := range 6 {
		lists(count, simple, func(body []api.Stmt) {
			l := append(few[:1:1], function("f", []string{"a"}, body...))
			wantAt, want := funcsInWords(l, []string{"v"})
			if at, e := Funcs(l, []string{"v"}); at != wantAt || e != want {
				t.Fatalf("Funcs of %s: %d, %d; want %d, %d", textOf(l), at, e, wantAt, want)
			}
			seen[want]++
		})
	}
	if min(seen[api.OK], seen[api.ErrName], seen[api.ErrCount], seen[api.ErrReturn]) < 100 {
		t.Errorf("too few of some: %v", seen)
	}
}

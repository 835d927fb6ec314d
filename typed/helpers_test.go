package typed

import (
	"fmt"
	"math/rand/v2"
	"testing"

	"foliot/api"
	"foliot/code"
)

func num(n int64) api.Exp   { return api.Exp{Kind: api.ExInt, Int: n} }
func name(s string) api.Exp { return api.Exp{Kind: api.ExName, Name: s} }

func exp(kind int, args ...api.Exp) api.Exp { return api.Exp{Kind: kind, Args: args} }

func call(s string, args ...api.Exp) api.Exp {
	return api.Exp{Kind: api.ExCall, Name: s, Args: args}
}

func makes(s string, x api.Exp) api.Stmt { return api.Stmt{Kind: api.StVar, Name: s, Val: x} }
func sets(s string, x api.Exp) api.Stmt  { return api.Stmt{Kind: api.StSet, Name: s, Val: x} }
func gives(x api.Exp) api.Stmt           { return api.Stmt{Kind: api.StReturn, Val: x} }

func loop(x api.Exp, body ...api.Stmt) api.Stmt {
	return api.Stmt{Kind: api.StWhile, Val: x, Body: body}
}

func choose(x api.Exp, body, other []api.Stmt) api.Stmt {
	return api.Stmt{Kind: api.StIf, Val: x, Body: body, Else: other}
}

func function(s string, params []string, body ...api.Stmt) api.Func {
	return api.Func{Name: s, Params: params, Body: body}
}

// parsed returns the functions of a text.
func parsed(t *testing.T, text string) []api.Func {
	t.Helper()
	l, at, e := code.ParseFuncs(text)
	if e != api.OK {
		t.Fatalf("%q is wrong at %d: %d", text, at, e)
	}
	return l
}

// parsedExp returns the expression of a text.
func parsedExp(t *testing.T, text string) api.Exp {
	t.Helper()
	x, at, e := code.ParseExp(text)
	if e != api.OK {
		t.Fatalf("%q is wrong at %d: %d", text, at, e)
	}
	return x
}

// short returns the beginning of a value's text.
func short(x any) string {
	text := fmt.Sprint(x)
	return text[:min(300, len(text))]
}

// textOf returns the text of functions that are known to have one.
func textOf(l []api.Func) string {
	text, e := code.PrintFuncs(l)
	if e != api.OK {
		return fmt.Sprint("no text: ", e)
	}
	return text
}

// checkFuncs compares the results of Funcs with those that are wanted, and what Exp says of the same functions.
func checkFuncs(t *testing.T, what string, l []api.Func, names []string, wantAt int, want api.Errno) {
	t.Helper()
	if at, e := Funcs(l, names); at != wantAt || e != want {
		t.Errorf("Funcs of %.500s with %s: %d, %d; want %d, %d", what, short(names), at, e, wantAt, want)
	}
	if e := Exp(num(0), names, l); e != want {
		t.Errorf("Exp of 0 with %.500s and %s: %d, want %d", what, short(names), e, want)
	}
}

// checkBodies checks functions that have no parameters, or the parameter a, with the given names v and w.
func checkBodies(t *testing.T, want api.Errno, bodies ...string) {
	t.Helper()
	for _, body := range bodies {
		text := "func f(a) { " + body + " }"
		checkFuncs(t, text, parsed(t, text), []string{"v", "w"}, 0, want)
	}
}

func checkExp(t *testing.T, what string, x api.Exp, names []string, l []api.Func, want api.Errno) {
	t.Helper()
	if e := Exp(x, names, l); e != want {
		t.Errorf("Exp of %.300s with %s: %d, want %d", what, short(names), e, want)
	}
}

// The generator draws trees from few names, so that there is about as much right as wrong in them.
type generator struct {
	*rand.Rand
	names []string
}

func newGenerator(seed uint64, names ...string) *generator {
	return &generator{rand.New(rand.NewPCG(seed, 9)), names}
}

func (g *generator) name() string { return g.names[g.IntN(len(g.names))] }

func (g *generator) exp(deep int) api.Exp {
	choice := g.IntN(6)
	if deep == 1 {
		choice = g.IntN(2)
	}
	switch choice {
	case 0, 5:
		return num(g.Int64N(3))
	case 1:
		return name(g.name())
	case 2:
		return exp(api.ExNot, g.exp(deep-1))
	case 3:
		return exp(api.ExAdd, g.exp(deep-1), g.exp(deep-1))
	}
	x := call([]string{"f", "g", "h"}[g.IntN(3)])
	for range g.IntN(3) {
		x.Args = append(x.Args, g.exp(deep-1))
	}
	return x
}

func (g *generator) list(deep, most int) []api.Stmt {
	var l []api.Stmt
	for range g.IntN(most + 1) {
		s := api.Stmt{Kind: 1 + g.IntN(5), Val: g.exp(1 + g.IntN(2))}
		switch {
		case s.Kind == api.StVar || s.Kind == api.StSet:
			s.Name = g.name()
		case s.Kind == api.StReturn:
		case deep > 1:
			s.Body = g.list(deep-1, most)
			if s.Kind == api.StIf {
				s.Else = g.list(deep-1, most)
			}
		}
		l = append(l, s)
	}
	return l
}

func (g *generator) params() []string {
	var l []string
	for range g.IntN(3) {
		l = append(l, g.name())
	}
	return l
}

// function returns a function that is called so, unless it has one of the names of others.
func (g *generator) function(s string) api.Func {
	f := function(s, g.params(), g.list(3, 2)...)
	if g.IntN(10) == 0 {
		f.Name = []string{"f", "g", "a"}[g.IntN(3)]
	}
	if g.IntN(4) > 0 {
		f.Body = append(f.Body, gives(g.exp(2)))
	}
	return f
}

func (g *generator) funcs(count int) []api.Func {
	var l []api.Func
	for k := range count {
		l = append(l, g.function([]string{"f", "g", "h"}[k]))
	}
	return l
}

// goodFuncs returns functions without a static error, and fewer of them if none are found.
func (g *generator) goodFuncs(names []string, count int) []api.Func {
	var l []api.Func
	for range 10000 {
		if len(l) == count {
			break
		}
		more := append(l[:len(l):len(l)], g.function([]string{"f", "g", "h"}[len(l)]))
		if _, e := Funcs(more, names); e == api.OK {
			l = more
		}
	}
	return l
}

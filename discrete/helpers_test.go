package discrete_test

import (
	"fmt"
	"reflect"
	"slices"
	"strings"
	"testing"

	"foliot/api"
	"foliot/checks"
	"foliot/code"
	"foliot/discrete"
	"foliot/network"
)

const head = "model m; clock x, y; var v in 0..2 = 0; var w in -5..5 = 1; chan a, c; broadcast chan b; urgent chan u; broadcast urgent chan g; func f(p) { return p / v; } "

// example is the model of the chapter, with what its moves add up.
const example = head + `
process P init A {
	loc A inv x <= 9 && y < 8 rate 10;
	loc B;
	edge A -> B when x > 1 && y <= 2 sync a! do v = v + 1 reset x = 3, y = 4 cost 5;
	edge A -> A when x >= 3 sync b! reset y = 1 cost 100;
}
process Q init C {
	loc C inv x < 7 rate 200;
	loc D;
	edge C -> D when y < 6 && x >= 4 sync a? reset x = 5 cost 20 kind 1;
	edge C -> C sync b? do v = v + 1 reset y = 2, x = 6 cost 300;
}
process R init C {
	loc C rate 7;
	loc D;
	edge C -> D when y >= 5 sync a?;
	edge C -> C sync b? do v = v + 1 reset x = 0 cost 9 kind 1;
}
`

func compiled(t *testing.T, text string) api.Net {
	t.Helper()
	m, at, e := network.Parse(text)
	if e != api.OK {
		t.Fatalf("%.300q is wrong at %d: %d", text, at, e)
	}
	n, e := checks.Compile(m)
	if e != api.OK {
		t.Fatalf("%.300q has the error %d", text, e)
	}
	return n
}

// inProcess returns a model with one process, whose first location is A.
func inProcess(text string) string { return head + "process P init A { " + text + " }" }

// withOther returns a model with a process P, and a process Q that is always in its location A.
func withOther(text, other string) string {
	return inProcess(text) + " process Q init A { loc A; " + other + " }"
}

func expOf(text string) api.Exp {
	x, at, e := code.ParseExp(text)
	if e != api.OK {
		panic(fmt.Sprintf("%.80q is wrong at %d: %d", text, at, e))
	}
	return x
}

func funcsOf(text string) []api.Func {
	l, at, e := code.ParseFuncs(text)
	if e != api.OK {
		panic(fmt.Sprintf("%.80q is wrong at %d: %d", text, at, e))
	}
	return l
}

func first(t *testing.T, n api.Net) api.Discrete {
	t.Helper()
	d, e := discrete.Initial(n)
	if e != api.OK {
		t.Fatalf("%s: Initial is %d", short(n), e)
	}
	return d
}

func state(locs []int, vars ...int64) api.Discrete { return api.Discrete{Locs: locs, Vars: vars} }

// movesOf returns the moves of a state; there must not be too many.
func movesOf(t *testing.T, n api.Net, d api.Discrete) []api.Move {
	t.Helper()
	l, e := discrete.Moves(n, d)
	if e != api.OK {
		t.Fatalf("%s: Moves of %+v is %d", short(n), d, e)
	}
	return l
}

// actsText writes the processes and edges of moves.
func actsText(l []api.Move) string {
	var texts []string
	for _, m := range l {
		text := ""
		for _, a := range m.Acts {
			text += fmt.Sprintf("%c%d", 'P'+a[0], a[1])
		}
		texts = append(texts, text)
	}
	return strings.Join(texts, " ")
}

// checkActs checks which edges act together in a state.
func checkActs(t *testing.T, what string, n api.Net, d api.Discrete, want string) {
	t.Helper()
	if got := actsText(movesOf(t, n, d)); got != want {
		t.Errorf("%.300s: the moves of %+v are %q, want %q", what, d, got, want)
	}
}

// checkFirst checks which edges act together in the first state.
func checkFirst(t *testing.T, text, want string) {
	t.Helper()
	n := compiled(t, text)
	checkActs(t, strings.TrimPrefix(text, head), n, first(t, n), want)
}

func checkMoves(t *testing.T, what string, n api.Net, d api.Discrete, want []api.Move) {
	t.Helper()
	if l := movesOf(t, n, d); plain(l) != plain(want) {
		t.Errorf("%.600s: the moves of %+v are %s, want %s", what, d, plain(l), plain(want))
	}
}

// checkRefused checks the errors of all functions for a net and a state.
func checkRefused(t *testing.T, what string, n api.Net, d api.Discrete) {
	t.Helper()
	moves, e1 := discrete.Moves(n, d)
	still, e2 := discrete.Still(n, d)
	inv, e3 := discrete.Invariant(n, d)
	rate, e4 := discrete.Rate(n, d)
	l := []api.Errno{discrete.Check(n, d), e1, e2, e3, e4}
	if !slices.Equal(l, slices.Repeat([]api.Errno{api.ErrArg}, 5)) || len(moves)+len(inv)+int(rate) > 0 || still {
		t.Errorf("%.300s: Check, Moves, Still, Invariant and Rate are %v, with %s, %v, %v, %d", what, l, short(moves), still, inv, rate)
	}
}

// checkNoNet checks the errors of all functions for a net that is not valid.
func checkNoNet(t *testing.T, what string, n api.Net, d api.Discrete) {
	t.Helper()
	checkRefused(t, what, n, d)
	initial, e1 := discrete.Initial(n)
	reached, e2 := discrete.Reach(n, 100)
	flat, states, e3 := discrete.Flat(n)
	if e1 != api.ErrArg || e2 != api.ErrArg || e3 != api.ErrArg || len(initial.Locs)+len(initial.Vars)+len(reached)+len(states) > 0 || plain(flat) != plain(api.Flat{}) {
		t.Errorf("%.300s: Initial, Reach and Flat are %d, %d, %d, with %s, %s, %s, %s", what, e1, e2, e3, short(initial), short(reached), short(flat), short(states))
	}
}

// plain writes a value; nil and empty lists alike.
func plain(x any) string { return fmt.Sprintf("%+v", x) }

func short(x any) string {
	text := plain(x)
	return text[:min(600, len(text))]
}

// eachPart calls f for a value and all parts of it, with their paths.
func eachPart(path string, v reflect.Value, f func(path string, v reflect.Value)) {
	f(path, v)
	switch v.Kind() {
	case reflect.Struct:
		for k := range v.NumField() {
			eachPart(path+"."+v.Type().Field(k).Name, v.Field(k), f)
		}
	case reflect.Slice:
		for k := range v.Len() {
			eachPart(fmt.Sprintf("%s[%d]", path, k), v.Index(k), f)
		}
	}
}

// partsOf calls f for all parts of what x points to, which f may change.
func partsOf[T any](x *T, f func(path string, v reflect.Value)) {
	eachPart(reflect.TypeFor[T]().Name(), reflect.ValueOf(x).Elem(), f)
}

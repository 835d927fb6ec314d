package network_test

import (
	"fmt"
	"reflect"
	"strings"
	"testing"

	"foliot/api"
	"foliot/code"
	"foliot/network"
)

const reservedWords = "model clock var in chan broadcast urgent committed func process init loc inv rate edge when if else while return sync do reset cost kind"

// The names of at most 16 bytes, and one byte more.
const (
	longestName = "sixteen_Letters9"
	tooLongName = "sixteen_Letters99"
)

// fullText is the canonical text of a model in which each part stands that there is.
const fullText = `model full;
clock x, y;
var v in -5..5 = -1;
var w in 0..1 = 1;
chan a;
urgent chan b;
broadcast chan c;
broadcast urgent chan d;
func f(p, q) {
	return p + q;
}
func g() {
	var s = 1;
	if (s) {
		s = 2;
	} else {
		s = -3;
	}
	while (s > 0) {
		s = s - 1;
	}
	return 0;
}
process P init L {
	loc L;
	loc M urgent rate 3;
	loc N committed inv x < 5 && y <= 0 rate -1;
	edge L -> M when x > 1 && y >= 2 if v < f(w, 1) sync a! do v = v + 1, w = 0 reset x = 0, y = 7 cost 2 kind 1;
	edge M -> L sync c?;
	edge N -> N;
}
process Q init R {
}
`

// full returns the tree of fullText, made by hand.
func full() api.Model {
	name := func(s string) api.Exp { return api.Exp{Kind: api.ExName, Name: s} }
	num := func(n int64) api.Exp { return api.Exp{Kind: api.ExInt, Int: n} }
	exp := func(kind int, l ...api.Exp) api.Exp { return api.Exp{Kind: kind, Args: l} }
	call := func(s string, l ...api.Exp) api.Exp { return api.Exp{Kind: api.ExCall, Name: s, Args: l} }
	f := api.Func{Name: "f", Params: []string{"p", "q"}, Body: []api.Stmt{{Kind: api.StReturn, Val: exp(api.ExAdd, name("p"), name("q"))}}}
	g := api.Func{Name: "g", Body: []api.Stmt{
		{Kind: api.StVar, Name: "s", Val: num(1)},
		{Kind: api.StIf, Val: name("s"), Body: []api.Stmt{{Kind: api.StSet, Name: "s", Val: num(2)}}, Else: []api.Stmt{{Kind: api.StSet, Name: "s", Val: num(-3)}}},
		{Kind: api.StWhile, Val: exp(api.ExGt, name("s"), num(0)), Body: []api.Stmt{{Kind: api.StSet, Name: "s", Val: exp(api.ExSub, name("s"), num(1))}}},
		{Kind: api.StReturn, Val: num(0)},
	}}
	return api.Model{
		Name:   "full",
		Clocks: []string{"x", "y"},
		Vars:   []api.Var{{Name: "v", Low: -5, High: 5, Init: -1}, {Name: "w", High: 1, Init: 1}},
		Chans:  []api.Chan{{Name: "a"}, {Name: "b", Urgent: true}, {Name: "c", Broadcast: true}, {Name: "d", Broadcast: true, Urgent: true}},
		Funcs:  []api.Func{f, g},
		Procs: []api.Proc{{
			Name: "P", Init: "L",
			Locs: []api.Loc{
				{Name: "L"},
				{Name: "M", Kind: api.LocUrgent, Rate: 3},
				{Name: "N", Kind: api.LocCommitted, Inv: []api.Test{{Clock: "x", Strict: true, C: 5}, {Clock: "y"}}, Rate: -1},
			},
			Edges: []api.Edge{{
				From: "L", To: "M", Tests: []api.Test{{Clock: "x", Lower: true, Strict: true, C: 1}, {Clock: "y", Lower: true, C: 2}},
				Cond: exp(api.ExLt, name("v"), call("f", name("w"), num(1))), Chan: "a", Send: true,
				Sets:   []api.Assign{{Name: "v", Val: exp(api.ExAdd, name("v"), num(1))}, {Name: "w", Val: num(0)}},
				Clears: []api.Clear{{Clock: "x"}, {Clock: "y", To: 7}},
				Cost:   2, Kind: 1,
			}, {From: "M", To: "L", Chan: "c"}, {From: "N", To: "N"}},
		}, {Name: "Q", Init: "R"}},
	}
}

// expOf returns the tree of an expression, which need not be small.
func expOf(t *testing.T, text string) api.Exp {
	t.Helper()
	x, at, e := code.ParseExp(text)
	if e != api.OK {
		t.Fatalf("%.80q is wrong at %d: %d", text, at, e)
	}
	return x
}

// equal is what Same has to be, for values without circles: nil and empty lists are equal.
func equal(a, b any) bool { return equalValues(reflect.ValueOf(a), reflect.ValueOf(b)) }

func equalValues(a, b reflect.Value) bool {
	switch a.Kind() {
	case reflect.Struct:
		for k := range a.NumField() {
			if !equalValues(a.Field(k), b.Field(k)) {
				return false
			}
		}
		return true
	case reflect.Slice:
		for k := range min(a.Len(), b.Len()) {
			if !equalValues(a.Index(k), b.Index(k)) {
				return false
			}
		}
		return a.Len() == b.Len()
	}
	return a.Interface() == b.Interface()
}

// eachPart calls f for a value and all parts of it, with their paths.
func eachPart(path string, v reflect.Value, f func(path string, v reflect.Value)) {
	f(path, v)
	switch v.Kind() {
	case reflect.Struct:
		for k := range v.NumField() {
			eachPart(path+"."+v.Type().Field(k).Name, v.Field(k), f)
		}
	case reflect.Slice:
		for k := range v.Len() {
			eachPart(fmt.Sprintf("%s[%d]", path, k), v.Index(k), f)
		}
	}
}

// eachPartOf calls f for all parts of a model, which f may change.
func eachPartOf(m *api.Model, f func(path string, v reflect.Value)) {
	eachPart("Model", reflect.ValueOf(m).Elem(), f)
}

// eachChanged calls f with a full model in which one part is changed; change tells whether it changes a part.
func eachChanged(change func(v reflect.Value) bool, f func(path string, m api.Model)) {
	count := 0
	m := full()
	eachPartOf(&m, func(string, reflect.Value) { count++ })
	for wanted := range count {
		m, k, found := full(), 0, ""
		eachPartOf(&m, func(path string, v reflect.Value) {
			if k == wanted && change(v) {
				found = path
			}
			k++
		})
		if found != "" {
			f(found, m)
		}
	}
}

// eachChange calls f with a full model in which one part of a sort is set to a value.
func eachChange[T any](to T, f func(path string, m api.Model)) {
	value := reflect.ValueOf(to)
	eachChanged(func(v reflect.Value) bool {
		if v.Type() != value.Type() {
			return false
		}
		v.Set(value)
		return true
	}, f)
}

// short returns the beginning of a value's text.
func short(x any) string {
	text := fmt.Sprintf("%+v", x)
	return text[:min(300, len(text))]
}

// checkForm checks what Form and Print say of a model.
func checkForm(t *testing.T, what string, m api.Model, want api.Errno) {
	t.Helper()
	if e := network.Form(m); e != want {
		t.Errorf("%s: Form is %d, want %d", what, e, want)
	}
	text, e := network.Print(m)
	if e != want || (text == "") != (want != api.OK) {
		t.Errorf("%s: Print is %.80q, %d; want %d", what, text, e, want)
	}
}

// checkParse checks the model of a text.
func checkParse(t *testing.T, text string, want api.Model) {
	t.Helper()
	if m, at, e := network.Parse(text); at != 0 || e != api.OK || !equal(m, want) {
		t.Errorf("Parse of %.300q: %s, %d, %d; want %s", text, short(m), at, e, short(want))
	}
}

// parseFails checks the error of a text that is no model.
func parseFails(t *testing.T, text string, want int, wantE api.Errno) {
	t.Helper()
	if m, at, e := network.Parse(text); at != want || e != wantE || !equal(m, api.Model{}) {
		t.Errorf("Parse of %.100q (%d bytes): %s, %d, %d; want %d, %d", text, len(text), short(m), at, e, want, wantE)
	}
}

// wrongAt checks that the token at the mark @ is wrong, which is taken away before.
func wrongAt(t *testing.T, marked string) {
	t.Helper()
	before, behind, isMarked := strings.Cut(marked, "@")
	if !isMarked {
		t.Fatalf("no mark in %q", marked)
	}
	parseFails(t, before+behind, len(before), api.ErrSyntax)
}

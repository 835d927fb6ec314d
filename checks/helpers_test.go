package checks_test

import (
	"fmt"
	"reflect"
	"slices"
	"testing"

	"foliot/api"
	"foliot/checks"
	"foliot/code"
	"foliot/network"
)

// fullText is a model without errors in which each part stands that there is.
const fullText = `model full;
clock x, y;
var v in -5..5 = -1;
var w in 0..1 = 1;
chan a;
urgent chan b;
broadcast chan c;
broadcast urgent chan d;
func f(p, q) { return p + q + v; }
func g() { var s = f(1, 2); while (s > 0) { s = s - 1; if (s) { s = 2; } else { } } return s; }
process P init L {
	loc K rate 1000;
	loc L inv x < 5 && y <= 0 && x <= 1048576;
	loc M urgent rate 3;
	edge L -> M when x > 0 && y >= 2 && x < 1048576 if v < f(w, 1) sync a! do v = v + 1, w = g(), v = w reset x = 0, y = 1048576, x = 7 cost 1000 kind 1;
	edge M -> L when y > 9 sync c! do w = w;
	edge M -> M if 1 sync d?;
	edge K -> K sync b!;
	edge L -> L when x >= 0 && y == 3 if v reset y = 8;
}
process Q init L {
	loc L committed;
	edge L -> L when x <= 4 sync a?;
	edge L -> L sync b? cost 1;
}
`

func parsed(t *testing.T, text string) api.Model {
	t.Helper()
	m, at, e := network.Parse(text)
	if e != api.OK {
		t.Fatalf("%.300q is wrong at %d: %d", text, at, e)
	}
	return m
}

func compiled(t *testing.T, text string) api.Net {
	t.Helper()
	n, e := checks.Compile(parsed(t, text))
	if e != api.OK {
		t.Fatalf("%.300q has the error %d", text, e)
	}
	return n
}

func expOf(text string) api.Exp {
	x, at, e := code.ParseExp(text)
	if e != api.OK {
		panic(fmt.Sprintf("%.80q is wrong at %d: %d", text, at, e))
	}
	return x
}

func funcsOf(text string) []api.Func {
	l, at, e := code.ParseFuncs(text)
	if e != api.OK {
		panic(fmt.Sprintf("%.80q is wrong at %d: %d", text, at, e))
	}
	return l
}

// plain writes a value; nil and empty lists alike.
func plain(x any) string { return fmt.Sprintf("%+v", x) }

func short(x any) string {
	text := plain(x)
	return text[:min(600, len(text))]
}

// checkCheck checks what Check and Compile say of a model.
func checkCheck(t *testing.T, what string, m api.Model, at int, want api.Errno) {
	t.Helper()
	if k, e := checks.Check(m); k != at || e != want {
		t.Errorf("%.400s: Check is %d, %d; want %d, %d", what, k, e, at, want)
	}
	n, e := checks.Compile(m)
	if e != want {
		t.Errorf("%.400s: Compile is %d, want %d", what, e, want)
	}
	if e != api.OK && plain(n) != plain(api.Net{}) {
		t.Errorf("%.400s: the error %d with %s", what, e, short(n))
	}
}

// checkTexts checks what Check says of texts.
func checkTexts(t *testing.T, at int, want api.Errno, texts ...string) {
	t.Helper()
	for _, text := range texts {
		checkCheck(t, text, parsed(t, text), at, want)
	}
}

// checkValid checks what Valid and Greatest say of a net.
func checkValid(t *testing.T, what string, n api.Net, want api.Errno) {
	t.Helper()
	if e := checks.Valid(n); e != want {
		t.Errorf("%.400s: Valid is %d, want %d", what, e, want)
	}
	if l, e := checks.Greatest(n); e != want || len(l) > 0 && e != api.OK {
		t.Errorf("%.400s: Greatest is %v, %d; want %d", what, l, e, want)
	}
}

// eachPart calls f for a value and all parts of it, with their paths.
func eachPart(path string, v reflect.Value, f func(path string, v reflect.Value)) {
	f(path, v)
	switch v.Kind() {
	case reflect.Struct:
		for k := range v.NumField() {
			eachPart(path+"."+v.Type().Field(k).Name, v.Field(k), f)
		}
	case reflect.Slice:
		for k := range v.Len() {
			eachPart(fmt.Sprintf("%s[%d]", path, k), v.Index(k), f)
		}
	}
}

// partsOf calls f for all parts of what x points to, which f may change.
func partsOf[T any](x *T, f func(path string, v reflect.Value)) {
	eachPart(reflect.TypeFor[T]().Name(), reflect.ValueOf(x).Elem(), f)
}

// changeOne changes the part with a number, and returns its path, and whether there is such a part.
func changeOne[T any](x *T, wanted int, change func(v reflect.Value)) (string, bool) {
	found, k := "", 0
	var part reflect.Value
	partsOf(x, func(path string, v reflect.Value) {
		if k == wanted {
			found, part = path, v
		}
		k++
	})
	if found != "" {
		change(part)
	}
	return found, found != ""
}

func join[T any](lists ...[]T) []T { return slices.Concat(lists...) }

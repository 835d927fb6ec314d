package network_test

import (
	"reflect"
	"slices"
	"testing"

	"foliot/api"
	"foliot/network"
)

// checkSame checks Same both ways, and with a model in a place of its own.
func checkSame(t *testing.T, what string, a, b api.Model, want bool) {
	t.Helper()
	if network.Same(a, b) != want || network.Same(b, a) != want {
		t.Errorf("%s: Same is %t and %t, want %t", what, network.Same(a, b), network.Same(b, a), want)
	}
	if !network.Same(a, a) || !network.Same(b, b) {
		t.Errorf("%s: a model is not the same as itself", what)
	}
}

// P11.1: models that are equal, well-formed or not, in memory of their own.
func TestSameOfEqualModels(t *testing.T) {
	checkSame(t, "full ones", full(), full(), true)
	checkSame(t, "nothing", api.Model{}, api.Model{}, true)
	checkSame(t, "nothing and a full one", api.Model{}, full(), false)
	for _, to := range []string{"", "if", "a b", tooLongName} {
		eachChange(to, func(path string, m api.Model) { checkSame(t, path, m, clone(m), true) })
	}
	for _, to := range []int64{1 << 40, -1 << 63} {
		eachChange(to, func(path string, m api.Model) { checkSame(t, path, m, clone(m), true) })
	}
	for _, s := range eachSize() {
		checkSame(t, s.what, s.make(s.most+1), s.make(s.most+1), true)
		checkSame(t, s.what, s.make(s.most), s.make(s.most-1), false)
	}
}

// clone returns a model without memory in common.
func clone(m api.Model) api.Model {
	var copyOf func(v reflect.Value) reflect.Value
	copyOf = func(v reflect.Value) reflect.Value {
		made := reflect.New(v.Type()).Elem()
		made.Set(v)
		switch v.Kind() {
		case reflect.Struct:
			for k := range v.NumField() {
				made.Field(k).Set(copyOf(v.Field(k)))
			}
		case reflect.Slice:
			made = reflect.MakeSlice(v.Type(), v.Len(), v.Len())
			for k := range v.Len() {
				made.Index(k).Set(copyOf(v.Index(k)))
			}
		}
		return made
	}
	return copyOf(reflect.ValueOf(m)).Interface().(api.Model)
}

// P11.1: models that differ in one field, wherever it stands.
func TestSameOfModelsThatDiffer(t *testing.T) {
	differ := func(path string, m api.Model) { checkSame(t, path, m, full(), equal(m, full())) }
	for _, to := range []string{"", "zz", "x ", "X"} {
		eachChange(to, differ)
	}
	for _, to := range []int64{77, -77, 0, 1 << 32} {
		eachChange(to, differ)
	}
	for _, to := range []int{77, 0, -1, 1 << 32} {
		eachChange(to, differ)
	}
	eachChange(true, differ)
	eachChange(false, differ)
	eachChange(api.Exp{}, differ)
	eachChange(api.Stmt{}, differ)
	for _, kind := range []int{api.ExInt, api.ExAdd, api.ExCall} {
		eachChange(api.Exp{Kind: kind}, differ)
	}
}

// P11.1: lists of other lengths, in another order, and empty ones.
func TestSameOfLists(t *testing.T) {
	for what, change := range map[string]func(l reflect.Value) reflect.Value{
		"one more":      func(l reflect.Value) reflect.Value { return reflect.Append(l, reflect.New(l.Type().Elem()).Elem()) },
		"the first one": func(l reflect.Value) reflect.Value { return l.Slice(0, min(1, l.Len())) },
		"none":          func(l reflect.Value) reflect.Value { return reflect.Zero(l.Type()) },
		"an empty one":  func(l reflect.Value) reflect.Value { return reflect.MakeSlice(l.Type(), 0, 3) },
		"without the first one": func(l reflect.Value) reflect.Value {
			return l.Slice(min(1, l.Len()), l.Len())
		},
		"the first one behind": func(l reflect.Value) reflect.Value {
			first := min(1, l.Len())
			return reflect.AppendSlice(l.Slice3(first, l.Len(), l.Len()), l.Slice(0, first))
		},
	} {
		changeList := func(v reflect.Value) bool {
			if v.Kind() != reflect.Slice {
				return false
			}
			v.Set(change(v))
			return true
		}
		eachChanged(changeList, func(path string, m api.Model) {
			checkSame(t, path+" with "+what, m, full(), equal(m, full()))
		})
	}
	empty := full()
	eachPartOf(&empty, func(_ string, v reflect.Value) {
		if v.Kind() == reflect.Slice && v.Len() == 0 {
			v.Set(reflect.MakeSlice(v.Type(), 0, 1))
		}
	})
	checkSame(t, "nil and empty lists", empty, full(), true)
}

func withCond(x api.Exp) api.Model { return withEdge(api.Edge{Cond: x}) }

// P11.1, rule R1: expressions that contain themselves are compared as trees without end.
func TestSameOfCircles(t *testing.T) {
	not := func(x api.Exp) api.Exp { return api.Exp{Kind: api.ExNot, Args: []api.Exp{x}} }
	one, two := api.Exp{Kind: api.ExInt, Int: 1}, api.Exp{Kind: api.ExInt, Int: 2}
	checkSame(t, "equal circles", withCond(circle(one)), withCond(circle(one)), true)
	checkSame(t, "other circles", withCond(circle(one)), withCond(circle(two)), false)
	checkSame(t, "a circle and its beginning", withCond(circle(one)), withCond(circle(one).Args[0]), true)
	longer := api.Exp{Kind: api.ExAdd, Args: []api.Exp{{}, one}}
	longer.Args[0] = api.Exp{Kind: api.ExAdd, Args: []api.Exp{longer, one}}
	checkSame(t, "circles of two lengths", withCond(circle(one)), withCond(longer), true)
	checkSame(t, "a circle and no circle", withCond(circle(one)), withCond(one), false)
	checkSame(t, "a circle within", withCond(circle(one)), withCond(not(circle(one))), false)
	wound, end := circle(one), circle(one)
	for range 1000 {
		wound = api.Exp{Kind: api.ExAdd, Args: []api.Exp{wound, one}}
		end = api.Exp{Kind: api.ExAdd, Args: []api.Exp{end, one}}
	}
	checkSame(t, "a circle far below", withCond(wound), withCond(circle(one)), true)
	checkSame(t, "another circle far below", withCond(wound), withCond(api.Exp{Kind: api.ExAdd, Args: []api.Exp{end, two}}), false)
	values := func(x api.Exp) api.Model { return withEdge(api.Edge{Sets: []api.Assign{{Name: "v", Val: x}}}) }
	checkSame(t, "equal circles of values", values(circle(one)), values(circle(one)), true)
	checkSame(t, "other circles of values", values(circle(one)), values(circle(two)), false)
}

// P11.1, rule R1: statements that contain themselves.
func TestSameOfCirclesOfStatements(t *testing.T) {
	circles := func(n int64) api.Model {
		m := full()
		m.Funcs[0].Body = []api.Stmt{{Kind: api.StIf}, {Kind: api.StReturn, Val: api.Exp{Kind: api.ExInt, Int: n}}}
		m.Funcs[0].Body[0].Body, m.Funcs[0].Body[0].Else = m.Funcs[0].Body, m.Funcs[0].Body
		return m
	}
	checkSame(t, "equal circles", circles(1), circles(1), true)
	checkSame(t, "other circles", circles(1), circles(2), false)
	half := circles(1)
	half.Funcs[0].Body[0].Else = slices.Clone(half.Funcs[0].Body[:1])
	checkSame(t, "a circle that is shorter at one place", circles(1), half, false)
}

// P11.1, rule R1: trees that are made of few lists, but have more parts than can be counted.
func TestSameOfSharedParts(t *testing.T) {
	shared := func(n int64) api.Model {
		x := api.Exp{Kind: api.ExInt, Int: n}
		body := []api.Stmt{{Kind: api.StReturn, Val: x}}
		for range 100 {
			x = api.Exp{Kind: api.ExAdd, Args: []api.Exp{x, x}}
			body = []api.Stmt{{Kind: api.StIf, Body: body, Else: body}}
		}
		m := withCond(x)
		m.Funcs[0].Body = body
		return m
	}
	checkSame(t, "equal ones", shared(1), shared(1), true)
	checkSame(t, "other ones", shared(1), shared(2), false)
}

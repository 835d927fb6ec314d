package checks_test

import (
	"fmt"
	"reflect"
	"testing"

	"foliot/api"
	"foliot/checks"
)

// someModels are a full model, and random ones, also with errors.
func someModels(t *testing.T) []api.Model {
	r := newMaker(3)
	l := []api.Model{parsed(t, fullText), {}}
	for range 200 {
		m := r.model()
		spoilSome(r, &m)
		l = append(l, m)
	}
	return l
}

// claim notes the places of all lists in what x points to, with what lies behind their lengths, and counts those that are known.
func claim[T any](x *T, known map[string]bool) int {
	shared := 0
	partsOf(x, func(_ string, v reflect.Value) {
		if v.Kind() != reflect.Slice {
			return
		}
		l := v.Slice(0, v.Cap())
		for k := range l.Len() {
			place := fmt.Sprint(l.Index(k).Addr().Pointer(), l.Type())
			if known[place] {
				shared++
			}
			known[place] = true
		}
	})
	return shared
}

// withSpare lengthens all lists by elements behind their lengths.
func withSpare[T any](x *T) {
	partsOf(x, func(_ string, v reflect.Value) {
		if v.Kind() == reflect.Slice && v.Len() > 0 {
			v.Set(reflect.Append(v, v.Index(0), reflect.Zero(v.Type().Elem())).Slice(0, v.Len()))
		}
	})
}

// allOf returns a text of what x points to and of what lies behind the lengths of its lists.
func allOf[T any](x *T) string {
	text := ""
	partsOf(x, func(path string, v reflect.Value) {
		if v.Kind() == reflect.Slice {
			text += fmt.Sprintf("%s %+v\n", path, v.Slice(0, v.Cap()))
		}
	})
	return text
}

// P12.1 to P12.4, rule R3: arguments are not changed, also behind the lengths of their lists.
func TestArgumentsAreNotChanged(t *testing.T) {
	for _, m := range someModels(t) {
		withSpare(&m)
		before := allOf(&m)
		checks.Check(m)
		n, e := checks.Compile(m)
		if allOf(&m) != before {
			t.Fatalf("the model %s is changed", short(m))
		}
		if e != api.OK {
			continue
		}
		withSpare(&n)
		before = allOf(&n)
		checks.Valid(n)
		checks.Greatest(n)
		if allOf(&n) != before {
			t.Fatalf("the net %s is changed", short(n))
		}
	}
}

// P12.2, rule R3: nets share no memory with models or with each other.
func TestResultsHaveTheirOwnMemory(t *testing.T) {
	known := map[string]bool{}
	var kept []api.Net
	models := someModels(t)
	shared := api.Model{Name: "m", Procs: []api.Proc{{Name: "P", Init: "A", Locs: []api.Loc{{Name: "A"}}}}, Funcs: funcsOf("func f(p) { if (p) { return p + 1; } else { return 2; } }")}
	shared.Funcs[0].Body[0].Else = shared.Funcs[0].Body[0].Body
	models = append(models, shared)
	for k := range models {
		claim(&models[k], known)
	}
	for _, m := range models {
		for range 2 {
			n, _ := checks.Compile(m)
			kept = append(kept, n)
			if shared := claim(&kept[len(kept)-1], known); shared > 0 {
				t.Errorf("of the net of %s, %d places are shared", short(m), shared)
			}
		}
	}
}

// P12.1 to P12.4, rule R6: nothing of an earlier call is left, whatever has become of its results.
func TestCallsAreIndependent(t *testing.T) {
	resultOf := func(m api.Model) (api.Net, []int64, string) {
		at, e := checks.Check(m)
		n, compileE := checks.Compile(m)
		l, greatestE := checks.Greatest(n)
		return n, l, fmt.Sprintf("%d %d %+v %d %d %v %d", at, e, n, compileE, checks.Valid(n), l, greatestE)
	}
	var want []string
	for _, m := range someModels(t) {
		_, _, result := resultOf(m)
		want = append(want, result)
	}
	for k, m := range someModels(t) {
		n, l, result := resultOf(m)
		if result != want[k] {
			t.Errorf("%s: %s, want %s", short(m), result, want[k])
		}
		for k := range l {
			l[k] = 99
		}
		partsOf(&n, func(_ string, v reflect.Value) {
			switch v.Kind() {
			case reflect.String:
				v.SetString("spoilt")
			case reflect.Int, reflect.Int64:
				v.SetInt(55)
			}
		})
		if _, _, again := resultOf(m); again != want[k] {
			t.Errorf("%s: results change with others", short(m))
		}
	}
}

package dense_test

import (
	"fmt"
	"reflect"
	"testing"

	"foliot/api"
	"foliot/dense"
)

// input is what functions are given; its parts may not be valid.
type input struct {
	N  api.Net
	S  api.Dense
	By api.Ratio
	L  []api.Step
}

// results are those of all functions.
type results struct {
	Initial, Waited, Moved, Run api.Dense
	Most                        api.Ratio
	Attained, Ever              bool
	Enabled                     []int
	Steps                       int
	Errors                      [7]api.Errno
}

func resultsOf(x input) *results {
	r := &results{}
	r.Initial, r.Errors[0] = dense.Initial(x.N)
	r.Errors[1] = dense.Check(x.N, x.S)
	r.Waited, r.Errors[2] = dense.Wait(x.N, x.S, x.By)
	r.Most, r.Attained, r.Ever, r.Errors[3] = dense.Most(x.N, x.S)
	r.Enabled, r.Errors[4] = dense.Enabled(x.N, x.S)
	r.Moved, r.Errors[5] = dense.Act(x.N, x.S, 0)
	r.Run, r.Steps, r.Errors[6] = dense.Run(x.N, x.S, x.L)
	return r
}

func someInputs(t *testing.T) []input {
	n := compiled(t, example)
	l := []input{{}, {N: n, S: first(t, n), By: read("0")}, {N: n}, {S: first(t, n)}, {N: n, S: first(t, n), By: read("1"), L: stepsOf("1", 0)}, {N: n, S: at(t, n, "3/2"), By: read("1/2"), L: stepsOf("0", -1)}}
	r := newMaker(3)
	for range 300 {
		n := r.net()
		l = append(l, input{n, r.anyState(n), read("0"), r.steps()}, input{n, r.state(n), r.number(), nil})
	}
	return l
}

// claim notes the places of all lists in what x points to, with what lies behind their lengths, and counts those that are known.
func claim[T any](x *T, known map[string]bool) int {
	shared := 0
	partsOf(x, func(_ string, v reflect.Value) {
		if v.Kind() != reflect.Slice {
			return
		}
		l := v.Slice(0, v.Cap())
		for k := range l.Len() {
			place := fmt.Sprint(l.Index(k).Addr().Pointer(), l.Type())
			if known[place] {
				shared++
			}
			known[place] = true
		}
	})
	return shared
}

// withSpare lengthens all lists by elements behind their lengths.
func withSpare[T any](x *T) {
	partsOf(x, func(_ string, v reflect.Value) {
		if v.Kind() == reflect.Slice && v.Len() > 0 {
			v.Set(reflect.Append(v, v.Index(0), reflect.Zero(v.Type().Elem())).Slice(0, v.Len()))
		}
	})
}

// allOf returns a text of what x points to and of what lies behind the lengths of its lists.
func allOf[T any](x *T) string {
	text := ""
	partsOf(x, func(path string, v reflect.Value) {
		if v.Kind() == reflect.Slice {
			text += fmt.Sprintf("%s %+v\n", path, v.Slice(0, v.Cap()))
		}
	})
	return text
}

// P14.7, rule R3: arguments are not changed, also behind the lengths of their lists.
func TestArgumentsAreNotChanged(t *testing.T) {
	for _, x := range someInputs(t) {
		withSpare(&x)
		before := allOf(&x)
		resultsOf(x)
		if allOf(&x) != before {
			t.Fatalf("%s is changed", short(x))
		}
	}
}

// P14.7, rule R3: results share no memory with arguments or with each other.
func TestResultsHaveTheirOwnMemory(t *testing.T) {
	known := map[string]bool{}
	inputs := someInputs(t)
	for k := range inputs {
		claim(&inputs[k], known)
	}
	var kept []*results
	for _, x := range inputs {
		for range 2 {
			l := resultsOf(x)
			kept = append(kept, l)
			if shared := claim(l, known); shared > 0 {
				t.Errorf("of the results for %s, %d places are shared", short(x), shared)
			}
		}
	}
	if len(kept) != 2*len(inputs) {
		t.Errorf("%d results", len(kept))
	}
}

// P14.7, rule R6: nothing of an earlier call is left, whatever has become of its results.
func TestCallsAreIndependent(t *testing.T) {
	var want []string
	for _, x := range someInputs(t) {
		want = append(want, plain(*resultsOf(x)))
	}
	for k, x := range someInputs(t) {
		l := resultsOf(x)
		if plain(*l) != want[k] {
			t.Errorf("%s: %s, want %s", short(x), plain(*l), want[k])
		}
		partsOf(l, func(_ string, v reflect.Value) {
			switch v.Kind() {
			case reflect.Int, reflect.Int64:
				v.SetInt(55)
			}
		})
		if plain(*resultsOf(x)) != want[k] {
			t.Errorf("%s: results change with others", short(x))
		}
	}
}

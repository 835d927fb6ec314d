package discrete_test

import (
	"fmt"
	"reflect"
	"testing"

	"foliot/api"
	"foliot/discrete"
)

// results are those of all functions for a net and a state.
type results struct {
	Initial api.Discrete
	Moves   []api.Move
	Still   bool
	Inv     []api.Con
	Rate    int64
	Reached []api.Discrete
	Flat    api.Flat
	States  []api.Discrete
	Errors  [8]api.Errno
}

func resultsOf(n api.Net, d api.Discrete) *results {
	x := &results{}
	x.Initial, x.Errors[0] = discrete.Initial(n)
	x.Errors[1] = discrete.Check(n, d)
	x.Moves, x.Errors[2] = discrete.Moves(n, d)
	x.Still, x.Errors[3] = discrete.Still(n, d)
	x.Inv, x.Errors[4] = discrete.Invariant(n, d)
	x.Rate, x.Errors[5] = discrete.Rate(n, d)
	x.Reached, x.Errors[6] = discrete.Reach(n, 100)
	x.Flat, x.States, x.Errors[7] = discrete.Flat(n)
	return x
}

// input is a net with a state, of which either may not be valid.
type input struct {
	N api.Net
	D api.Discrete
}

func someInputs(t *testing.T) []input {
	n := compiled(t, example)
	l := []input{{}, {n, first(t, n)}, {n, api.Discrete{}}, {api.Net{}, first(t, n)}}
	r := newMaker(3)
	for range 150 {
		n := r.net(4)
		l = append(l, input{n, r.state(n)})
	}
	return l
}

// claim notes the places of all lists in what x points to, with what lies behind their lengths, and counts those that are known.
func claim[T any](x *T, known map[string]bool) int {
	shared := 0
	partsOf(x, func(_ string, v reflect.Value) {
		if v.Kind() != reflect.Slice {
			return
		}
		l := v.Slice(0, v.Cap())
		for k := range l.Len() {
			place := fmt.Sprint(l.Index(k).Addr().Pointer(), l.Type())
			if known[place] {
				shared++
			}
			known[place] = true
		}
	})
	return shared
}

// withSpare lengthens all lists by elements behind their lengths.
func withSpare[T any](x *T) {
	partsOf(x, func(_ string, v reflect.Value) {
		if v.Kind() == reflect.Slice && v.Len() > 0 {
			v.Set(reflect.Append(v, v.Index(0), reflect.Zero(v.Type().Elem())).Slice(0, v.Len()))
		}
	})
}

// allOf returns a text of what x points to and of what lies behind the lengths of its lists.
func allOf[T any](x *T) string {
	text := ""
	partsOf(x, func(path string, v reflect.Value) {
		if v.Kind() == reflect.Slice {
			text += fmt.Sprintf("%s %+v\n", path, v.Slice(0, v.Cap()))
		}
	})
	return text
}

// P13.1 to P13.5, rule R3: arguments are not changed, also behind the lengths of their lists.
func TestArgumentsAreNotChanged(t *testing.T) {
	for _, x := range someInputs(t) {
		withSpare(&x)
		before := allOf(&x)
		resultsOf(x.N, x.D)
		if allOf(&x) != before {
			t.Fatalf("%s is changed", short(x))
		}
	}
}

// P13.1 to P13.5, rule R3: results share no memory with arguments or with each other.
func TestResultsHaveTheirOwnMemory(t *testing.T) {
	known := map[string]bool{}
	inputs := someInputs(t)
	for k := range inputs {
		claim(&inputs[k], known)
	}
	var kept []*results
	for _, x := range inputs {
		for range 2 {
			l := resultsOf(x.N, x.D)
			kept = append(kept, l)
			if shared := claim(l, known); shared > 0 {
				t.Errorf("of the results for %s, %d places are shared", short(x), shared)
			}
		}
	}
	if len(kept) != 2*len(inputs) {
		t.Errorf("%d results", len(kept))
	}
}

// P13.1 to P13.5, rule R6: nothing of an earlier call is left, whatever has become of its results.
func TestCallsAreIndependent(t *testing.T) {
	var want []string
	for _, x := range someInputs(t) {
		want = append(want, plain(*resultsOf(x.N, x.D)))
	}
	for k, x := range someInputs(t) {
		l := resultsOf(x.N, x.D)
		if plain(*l) != want[k] {
			t.Errorf("%s: %s, want %s", short(x), plain(*l), want[k])
		}
		partsOf(l, func(_ string, v reflect.Value) {
			switch v.Kind() {
			case reflect.Int, reflect.Int64:
				v.SetInt(55)
			}
		})
		if plain(*resultsOf(x.N, x.D)) != want[k] {
			t.Errorf("%s: results change with others", short(x))
		}
	}
}

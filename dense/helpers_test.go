package dense_test

import (
	"fmt"
	"reflect"
	"slices"
	"strings"
	"testing"

	"foliot/api"
	"foliot/checks"
	"foliot/dense"
	"foliot/discrete"
	"foliot/network"
	"foliot/ratio"
)

const head = "model m; clock x, y; var v in 0..2 = 0; chan a; broadcast chan b; urgent chan u; broadcast urgent chan g; "

// example is the net of the chapter.
const example = "model m; clock x; process P init A { loc A inv x <= 2; loc B; edge A -> B when x >= 1 reset x = 0; edge B -> B when x > 3; }"

func compiled(t *testing.T, text string) api.Net {
	t.Helper()
	m, at, e := network.Parse(text)
	if e != api.OK {
		t.Fatalf("%.300q is wrong at %d: %d", text, at, e)
	}
	n, e := checks.Compile(m)
	if e != api.OK {
		t.Fatalf("%.300q has the error %d", text, e)
	}
	return n
}

// inProcess returns a model with one process, whose first location is A.
func inProcess(text string) string { return head + "process P init A { " + text + " }" }

// withOther returns a model with a process P, and a process Q, whose first location is A as well.
func withOther(text, other string) string {
	return inProcess(text) + " process Q init A { " + other + " }"
}

// crowd is a model with one set of edges more than a state may have.
func crowd() string {
	text := head
	for k := range 6 {
		text += "process P" + string(rune('0'+k)) + " init A { loc A; " + strings.Repeat("edge A -> A; ", []int{60, 1}[k/5]) + "} "
	}
	return text
}

func read(text string) api.Ratio {
	r, e := ratio.Read(text)
	if e != api.OK {
		panic(text + " is no ratio")
	}
	return r
}

func clocksOf(text string) []api.Ratio {
	var l []api.Ratio
	for _, word := range strings.Fields(text) {
		l = append(l, read(word))
	}
	return l
}

// wrong returns pairs of numbers that are no valid rational numbers.
func wrong() []api.Ratio {
	return []api.Ratio{{}, {Num: 1}, {Num: 2, Den: 2}, {Den: 2}, {Num: 1, Den: -1}, {Num: -1, Den: -1}, {Num: api.MaxRatio + 1, Den: 1}, {Num: 1, Den: api.MaxRatio + 1}, {Num: 6, Den: 4}}
}

func first(t *testing.T, n api.Net) api.Dense {
	t.Helper()
	s, e := dense.Initial(n)
	if e != api.OK {
		t.Fatalf("%s: Initial is %d", short(n), e)
	}
	return s
}

// at returns the first state with other values of the clocks.
func at(t *testing.T, n api.Net, clocks string) api.Dense {
	t.Helper()
	return in(t, n, nil, clocks)
}

// in returns the first state with other values of the clocks and, if they are told, other locations.
func in(t *testing.T, n api.Net, locs []int, clocks string) api.Dense {
	t.Helper()
	s := first(t, n)
	s.Clocks = clocksOf(clocks)
	if locs != nil {
		s.D.Locs = locs
	}
	if e := dense.Check(n, s); e != api.OK {
		t.Fatalf("%s: %s is no state: %d", short(n), plain(s), e)
	}
	return s
}

// answer writes what a function returns that returns a state, where the state must be one.
func answer(t *testing.T, n api.Net, s api.Dense, e api.Errno) string {
	t.Helper()
	if e != api.OK {
		if plain(s) != plain(api.Dense{}) {
			t.Errorf("%s with the error %d", plain(s), e)
		}
		return fmt.Sprint("error ", int(e))
	}
	if e := dense.Check(n, s); e != api.OK {
		t.Errorf("%s: %s is no state: %d", short(n), plain(s), e)
	}
	return stateText(s)
}

// stateText writes the locations, the variables and the clocks of a state.
func stateText(s api.Dense) string {
	var texts []string
	for _, c := range s.Clocks {
		text, e := ratio.Text(c)
		if e != api.OK {
			text = fmt.Sprintf("%+v", c)
		}
		texts = append(texts, text)
	}
	return fmt.Sprint(s.D.Locs, s.D.Vars, texts)
}

func wait(t *testing.T, n api.Net, s api.Dense, by api.Ratio) string {
	t.Helper()
	next, e := dense.Wait(n, s, by)
	return answer(t, n, next, e)
}

func act(t *testing.T, n api.Net, s api.Dense, move int) string {
	t.Helper()
	next, e := dense.Act(n, s, move)
	return answer(t, n, next, e)
}

func run(t *testing.T, n api.Net, s api.Dense, l []api.Step) string {
	t.Helper()
	next, k, e := dense.Run(n, s, l)
	return fmt.Sprint(answer(t, n, next, e), " ", k)
}

func most(n api.Net, s api.Dense) string {
	by, attained, ever, e := dense.Most(n, s)
	return fmt.Sprintln(by, attained, ever, e)
}

func enabled(n api.Net, s api.Dense) string {
	l, e := dense.Enabled(n, s)
	return fmt.Sprintln(len(l), l, e)
}

func checkText(t *testing.T, what, got, want string) {
	t.Helper()
	if got != want {
		t.Errorf("%.300s: %q, want %q", what, got, want)
	}
}

func checkMost(t *testing.T, what string, n api.Net, s api.Dense, by api.Ratio, attained, ever bool, e api.Errno) {
	t.Helper()
	checkText(t, what+": Most of "+stateText(s), most(n, s), fmt.Sprintln(by, attained, ever, e))
}

func checkEnabled(t *testing.T, what string, n api.Net, s api.Dense, want ...int) {
	t.Helper()
	checkText(t, what+": Enabled of "+stateText(s), enabled(n, s), fmt.Sprintln(len(want), want, api.OK))
}

// checkRefused checks that all functions return ErrArg for a net and a state.
func checkRefused(t *testing.T, what string, n api.Net, s api.Dense) {
	t.Helper()
	none, long := fmt.Sprint("error ", int(api.ErrArg)), make([]api.Step, api.MaxRun+1)
	if e := dense.Check(n, s); e != api.ErrArg {
		t.Errorf("%.300s: Check of %s is %d", what, short(s), e)
	}
	for _, by := range []string{"0", "1", "1/2"} {
		checkText(t, what+": Wait", wait(t, n, s, read(by)), none)
	}
	checkMost(t, what, n, s, api.Ratio{}, false, false, api.ErrArg)
	checkText(t, what+": Enabled", enabled(n, s), fmt.Sprintln(0, []int{}, api.ErrArg))
	for _, move := range []int{-1, 0, 1} {
		checkText(t, what+": Act", act(t, n, s, move), none)
	}
	for _, l := range [][]api.Step{nil, {{Wait: read("0"), Move: -1}}, {{Wait: read("1")}}, long} {
		checkText(t, what+": Run", run(t, n, s, l), none+" 0")
	}
}

// movesOf returns the moves of a state; there must not be too many.
func movesOf(t *testing.T, n api.Net, s api.Dense) []api.Move {
	t.Helper()
	l, e := discrete.Moves(n, s.D)
	if e != api.OK {
		t.Fatalf("%s: Moves of %s is %d", short(n), plain(s), e)
	}
	return l
}

// plain writes a value; nil and empty lists alike.
func plain(x any) string { return fmt.Sprintf("%+v", x) }

func short(x any) string {
	text := plain(x)
	return text[:min(600, len(text))]
}

// eachPart calls f for a value and all parts of it, with their paths.
func eachPart(path string, v reflect.Value, f func(path string, v reflect.Value)) {
	f(path, v)
	switch v.Kind() {
	case reflect.Struct:
		for k := range v.NumField() {
			eachPart(path+"."+v.Type().Field(k).Name, v.Field(k), f)
		}
	case reflect.Slice:
		for k := range v.Len() {
			eachPart(fmt.Sprintf("%s[%d]", path, k), v.Index(k), f)
		}
	}
}

// partsOf calls f for all parts of what x points to, which f may change.
func partsOf[T any](x *T, f func(path string, v reflect.Value)) {
	eachPart(reflect.TypeFor[T]().Name(), reflect.ValueOf(x).Elem(), f)
}

func same(a, b api.Dense) bool {
	return slices.Equal(a.D.Locs, b.D.Locs) && slices.Equal(a.D.Vars, b.D.Vars) && slices.Equal(a.Clocks, b.Clocks)
}

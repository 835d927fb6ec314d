package network_test

import (
	"math"
	"slices"
	"strconv"
	"strings"
	"testing"

	"foliot/api"
)

// P11.1, P11.3: models that are well-formed and small, whatever else is wrong with them.
func TestFormOfGoodModels(t *testing.T) {
	for what, m := range map[string]api.Model{
		"a full one":        full(),
		"a name alone":      {Name: "m"},
		"the longest names": {Name: longestName, Clocks: []string{longestName}, Procs: []api.Proc{{Name: longestName, Init: longestName}}},
		"the same names":    {Name: "m", Clocks: []string{"m", "m"}, Vars: []api.Var{{Name: "m"}, {Name: "m"}}, Procs: []api.Proc{{Name: "m", Init: "m"}, {Name: "m", Init: "m"}}},
		"a wrong range":     {Name: "m", Vars: []api.Var{{Name: "v", Low: 2, High: 1, Init: 5}}},
		"unknown names":     {Name: "m", Procs: []api.Proc{{Name: "P", Init: "Z", Edges: []api.Edge{{From: "A", To: "B", Chan: "c"}}}}},
		"empty lists": {
			Name: "m", Clocks: []string{}, Vars: []api.Var{}, Chans: []api.Chan{}, Funcs: []api.Func{}, Procs: []api.Proc{{
				Name: "P", Init: "A", Locs: []api.Loc{{Name: "A", Inv: []api.Test{}}}, Edges: []api.Edge{{
					From: "A", To: "A", Tests: []api.Test{}, Cond: api.Exp{Args: []api.Exp{}}, Sets: []api.Assign{}, Clears: []api.Clear{}}},
			}},
		},
	} {
		checkForm(t, what, m, api.OK)
	}
}

// P11.1, P11.3: each name of a model.
func TestFormOfNames(t *testing.T) {
	for _, s := range append(strings.Fields(reservedWords), "1", "_a", "a b", "a-b", "a.b", "ä", "a\n", "@", tooLongName) {
		eachChange(s, func(path string, m api.Model) { checkForm(t, path+" "+s, m, api.ErrArg) })
	}
	mayBeEmpty := func(path string) bool {
		return strings.HasSuffix(path, ".Chan") || strings.Contains(path, ".Val") || strings.Contains(path, ".Body") || strings.Contains(path, ".Cond")
	}
	eachChange("", func(path string, m api.Model) {
		if !mayBeEmpty(path) {
			checkForm(t, path+" empty", m, api.ErrArg)
		}
	})
	eachChange(longestName, func(path string, m api.Model) {
		if !mayBeEmpty(path) || strings.HasSuffix(path, ".Chan") {
			checkForm(t, path, m, api.OK)
		}
	})
}

// P11.1, P11.3: an edge without a channel does not send.
func TestFormOfChannels(t *testing.T) {
	for _, c := range []struct {
		channel string
		send    bool
		want    api.Errno
	}{{"", false, api.OK}, {"", true, api.ErrArg}, {"a", false, api.OK}, {"a", true, api.OK}, {"if", false, api.ErrArg}, {"if", true, api.ErrArg}} {
		m := full()
		m.Procs[0].Edges[2].Chan, m.Procs[0].Edges[2].Send = c.channel, c.send
		checkForm(t, c.channel, m, c.want)
	}
}

// P11.1, P11.3: each integer of a model.
func TestFormOfIntegers(t *testing.T) {
	for _, n := range []int64{1<<31 + 1, -1<<31 - 1, math.MaxInt64, math.MinInt64, 1 << 32} {
		eachChange(n, func(path string, m api.Model) { checkForm(t, path+" too large", m, api.ErrArg) })
		m := full()
		m.Procs[0].Edges[1].Kind = int(n)
		checkForm(t, "a kind of an edge", m, api.ErrArg)
	}
	for _, n := range []int64{1 << 31, -1 << 31} {
		eachChange(n, func(path string, m api.Model) {
			if !strings.Contains(path, ".Val") && !strings.Contains(path, ".Cond") {
				checkForm(t, path, m, api.OK)
			}
		})
		m := full()
		m.Procs[0].Edges[1].Kind = int(n)
		checkForm(t, "a kind of an edge", m, api.OK)
	}
}

// P11.1, P11.3: the kinds of locations.
func TestFormOfLocations(t *testing.T) {
	for kind, want := range map[int]api.Errno{
		0: api.OK, 1: api.OK, 2: api.OK, 3: api.ErrArg, -1: api.ErrArg, math.MaxInt: api.ErrArg, math.MinInt: api.ErrArg, 256: api.ErrArg, 1 << 32: api.ErrArg,
	} {
		for k := range 3 {
			m := full()
			m.Procs[0].Locs[k].Kind = kind
			checkForm(t, "a location of the kind "+strconv.Itoa(kind), m, want)
		}
	}
}

// P11.1, P11.3: conditions may be the zero expression, values may not; both have the form of layer 8, and so have functions.
func TestFormOfExpressions(t *testing.T) {
	one := api.Exp{Kind: api.ExInt, Int: 1}
	for what, c := range map[string]struct {
		x           api.Exp
		cond, value api.Errno
	}{
		"nothing":         {api.Exp{}, api.OK, api.ErrArg},
		"an empty list":   {api.Exp{Args: []api.Exp{}}, api.OK, api.ErrArg},
		"a number":        {one, api.OK, api.OK},
		"only a number":   {api.Exp{Int: 1}, api.ErrArg, api.ErrArg},
		"only a name":     {api.Exp{Name: "v"}, api.ErrArg, api.ErrArg},
		"only a part":     {api.Exp{Args: []api.Exp{one}}, api.ErrArg, api.ErrArg},
		"nothing in it":   {api.Exp{Kind: api.ExNot, Args: []api.Exp{{}}}, api.ErrArg, api.ErrArg},
		"a wrong kind":    {api.Exp{Kind: 20}, api.ErrArg, api.ErrArg},
		"a reserved name": {api.Exp{Kind: api.ExName, Name: "in"}, api.ErrArg, api.ErrArg},
		"a great number":  {api.Exp{Kind: api.ExInt, Int: 1<<31 + 1}, api.ErrArg, api.ErrArg},
		"a deep one":      {nested(31), api.ErrLong, api.ErrLong},
		"five arguments":  {api.Exp{Kind: api.ExCall, Name: "f", Args: []api.Exp{one, one, one, one, one}}, api.ErrLong, api.ErrLong},
	} {
		for k := range 3 {
			m := full()
			m.Procs[0].Edges[k].Cond = c.x
			checkForm(t, "as a condition: "+what, m, c.cond)
			m = full()
			m.Procs[0].Edges[k].Sets = append(m.Procs[0].Edges[k].Sets, api.Assign{Name: "v", Val: c.x})
			checkForm(t, "as a value: "+what, m, c.value)
		}
		m := full()
		m.Funcs[1].Body[2].Body[0].Val = c.x
		checkForm(t, "in a function: "+what, m, c.value)
	}
	for what, f := range map[string]api.Func{
		"nothing": {}, "a name": {Name: "if"}, "a parameter": {Name: "f", Params: []string{"a", ""}}, "a statement": {Name: "f", Body: []api.Stmt{{}}},
	} {
		m := full()
		m.Funcs = append(m.Funcs, f)
		checkForm(t, "in a function: "+what, m, api.ErrArg)
	}
}

// sized is a model in which one list, or one sort of nested parts, has so many elements.
type sized struct {
	what string
	most int
	make func(n int) api.Model
}

func repeated[T any](n int, x T) []T { return slices.Repeat([]T{x}, n) }

func withProc(p api.Proc) api.Model {
	m := full()
	p.Name, p.Init = "Q", "A"
	m.Procs[1] = p
	return m
}

func withEdge(x api.Edge) api.Model {
	x.From, x.To = "A", "B"
	return withProc(api.Proc{Edges: []api.Edge{{From: "A", To: "A"}, x}})
}

// nested returns an expression that is n deep.
func nested(n int) api.Exp {
	x := api.Exp{Kind: api.ExName, Name: "v"}
	for range n - 1 {
		x = api.Exp{Kind: api.ExNot, Args: []api.Exp{x}}
	}
	return x
}

// sum returns 2 n + 1 expressions in each other that are not nested deep.
func sum(n int) api.Exp {
	if n == 0 {
		return api.Exp{Kind: api.ExName, Name: "v"}
	}
	return api.Exp{Kind: api.ExAdd, Args: []api.Exp{sum((n - 1) / 2), sum(n - 1 - (n-1)/2)}}
}

// eachSize returns all limits that a small model keeps.
func eachSize() []sized {
	test, one := api.Test{Clock: "x"}, api.Exp{Kind: api.ExInt, Int: 1}
	returns := api.Stmt{Kind: api.StReturn, Val: one}
	call := func(n int) api.Exp { return api.Exp{Kind: api.ExCall, Name: "f", Args: repeated(n, one)} }
	return []sized{
		{"clocks", 8, func(n int) api.Model { m := full(); m.Clocks = repeated(n, "x"); return m }},
		{"variables", 16, func(n int) api.Model { m := full(); m.Vars = repeated(n, api.Var{Name: "v"}); return m }},
		{"channels", 16, func(n int) api.Model { m := full(); m.Chans = repeated(n, api.Chan{Name: "a"}); return m }},
		{"functions", 8, func(n int) api.Model { m := full(); m.Funcs = repeated(n, api.Func{Name: "f"}); return m }},
		{"parameters", 4, func(n int) api.Model { m := full(); m.Funcs[1].Params = repeated(n, "p"); return m }},
		{"expressions and statements of functions", 200, func(n int) api.Model {
			m := full()
			m.Funcs = []api.Func{{Name: "f", Body: repeated(100, returns)}, {Name: "g", Body: repeated(n-100, returns)}}
			return m
		}},
		{"processes", 6, func(n int) api.Model { m := full(); m.Procs = repeated(n, m.Procs[0]); return m }},
		{"locations", 20, func(n int) api.Model { return withProc(api.Proc{Locs: repeated(n, api.Loc{Name: "A"})}) }},
		{"edges", 60, func(n int) api.Model { return withProc(api.Proc{Edges: repeated(n, api.Edge{From: "A", To: "A"})}) }},
		{"tests of a location", 16, func(n int) api.Model {
			return withProc(api.Proc{Locs: []api.Loc{{Name: "A"}, {Name: "B", Inv: repeated(n, test)}}})
		}},
		{"tests of an edge", 16, func(n int) api.Model { return withEdge(api.Edge{Tests: repeated(n, test)}) }},
		{"assignments", 16, func(n int) api.Model { return withEdge(api.Edge{Sets: repeated(n, api.Assign{Name: "v", Val: one})}) }},
		{"resets", 16, func(n int) api.Model { return withEdge(api.Edge{Clears: repeated(n, api.Clear{Clock: "x"})}) }},
		{"arguments in a condition", 4, func(n int) api.Model { return withEdge(api.Edge{Cond: call(n)}) }},
		{"arguments in a value", 4, func(n int) api.Model {
			return withEdge(api.Edge{Sets: []api.Assign{{Name: "w", Val: one}, {Name: "v", Val: call(n)}}})
		}},
		{"levels of a condition", 30, func(n int) api.Model { return withEdge(api.Edge{Cond: nested(n)}) }},
		{"levels of a value", 30, func(n int) api.Model { return withEdge(api.Edge{Sets: []api.Assign{{Name: "v", Val: nested(n)}}}) }},
		{"sums in a condition", 199, func(n int) api.Model { return withEdge(api.Edge{Cond: sum(n)}) }},
		{"sums in a value", 199, func(n int) api.Model {
			return withEdge(api.Edge{Sets: repeated(2, api.Assign{Name: "v", Val: sum(n)})})
		}},
	}
}

// P11.1, P11.3: a model is small up to each limit, and not beyond it.
func TestFormAtLimits(t *testing.T) {
	for _, s := range eachSize() {
		for n := range 3 {
			checkForm(t, s.what, s.make(s.most-n), api.OK)
			checkForm(t, "too many "+s.what, s.make(s.most+1+n), api.ErrLong)
		}
		checkForm(t, "very many "+s.what, s.make(2000), api.ErrLong)
	}
	m := full()
	p := api.Proc{Name: "P", Init: "L", Locs: repeated(20, m.Procs[0].Locs[2]), Edges: repeated(60, m.Procs[0].Edges[0])}
	m.Procs = repeated(6, p)
	checkForm(t, "each process with all locations and edges", m, api.OK)
}

// P11.1, P11.3: what is not well-formed is told first, wherever it stands.
func TestFormTellsErrArgFirst(t *testing.T) {
	for _, s := range eachSize() {
		for _, wrong := range []func(m *api.Model){
			func(m *api.Model) { m.Name = "" },
			func(m *api.Model) { m.Clocks = append(m.Clocks, "if") },
			func(m *api.Model) { m.Vars = append(m.Vars, api.Var{Name: "v", Low: 1 << 40}) },
			func(m *api.Model) { m.Chans = append(m.Chans, api.Chan{}) },
			func(m *api.Model) { m.Funcs = append(m.Funcs, api.Func{}) },
			func(m *api.Model) { m.Procs = append(m.Procs, api.Proc{Name: "P"}) },
			func(m *api.Model) {
				m.Procs = append(m.Procs, api.Proc{Name: "P", Init: "A", Locs: []api.Loc{{Name: "A", Kind: 3}}})
			},
			func(m *api.Model) {
				m.Procs = append(m.Procs, api.Proc{Name: "P", Init: "A", Edges: []api.Edge{{From: "A", To: "A", Send: true}}})
			},
			func(m *api.Model) {
				m.Procs = append(m.Procs, api.Proc{Name: "P", Init: "A", Edges: []api.Edge{{From: "A", To: "A", Sets: []api.Assign{{Name: "v"}}}}})
			},
		} {
			m := s.make(s.most + 1)
			wrong(&m)
			checkForm(t, "too many "+s.what+", and something wrong", m, api.ErrArg)
		}
	}
}

// circle returns an expression that contains itself, and another one.
func circle(other api.Exp) api.Exp {
	x := api.Exp{Kind: api.ExAdd, Args: []api.Exp{{}, other}}
	x.Args[0] = x
	return x
}

// P11.1, P11.3, rule R1: lists that contain themselves are not small.
func TestFormOfCircles(t *testing.T) {
	for what, c := range map[string]struct {
		other api.Exp
		want  api.Errno
	}{"well-formed": {api.Exp{Kind: api.ExInt}, api.ErrLong}, "wrong": {api.Exp{}, api.ErrArg}} {
		x := circle(c.other)
		m := full()
		m.Procs[0].Edges[1].Cond = x
		checkForm(t, "a circle in a condition, "+what, m, c.want)
		m = full()
		m.Procs[0].Edges[1].Sets = []api.Assign{{Name: "v", Val: x}}
		checkForm(t, "a circle in a value, "+what, m, c.want)
		m = full()
		m.Funcs[0].Body = []api.Stmt{{Kind: api.StWhile, Val: api.Exp{Kind: api.ExInt}}, {Kind: api.StReturn, Val: c.other}}
		m.Funcs[0].Body[0].Body = m.Funcs[0].Body
		checkForm(t, "a circle of statements, "+what, m, c.want)
	}
}

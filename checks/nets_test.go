package checks_test

import (
	"fmt"
	"slices"
	"strings"
	"testing"

	"foliot/api"
	"foliot/checks"
)

// fullNet is the net of fullText, made by hand.
func fullNet() api.Net {
	m := api.Net{Clocks: 2}
	m.Vars = []api.Var{{Name: "v", Low: -5, High: 5, Init: -1}, {Name: "w", High: 1, Init: 1}}
	m.Chans = []api.Chan{{Name: "a"}, {Name: "b", Urgent: true}, {Name: "c", Broadcast: true}, {Name: "d", Broadcast: true, Urgent: true}}
	m.Funcs = funcsOf("func f(p, q) { return p + q + v; } func g() { var s = f(1, 2); while (s > 0) { s = s - 1; if (s) { s = 2; } else { } } return s; }")
	m.Procs = []api.NProc{{
		Init: 1,
		Locs: []api.NLoc{
			{Rate: 1000},
			{Inv: []api.Con{{Clock: 1, Strict: true, C: 5}, {Clock: 2}, {Clock: 1, C: 1 << 20}}},
			{Kind: api.LocUrgent, Rate: 3},
		},
		Edges: []api.NEdge{
			{
				From: 1, To: 2, Guard: []api.Con{{Clock: 1, Lower: true, Strict: true}, {Clock: 2, Lower: true, C: 2}, {Clock: 1, Strict: true, C: 1 << 20}},
				Cond: expOf("v < f(w, 1)"), Chan: 0, Send: true,
				Sets:   []api.NSet{{Var: 0, Val: expOf("v + 1")}, {Var: 1, Val: expOf("g()")}, {Var: 0, Val: expOf("w")}},
				Resets: []api.Reset{{Clock: 1}, {Clock: 2, To: 1 << 20}, {Clock: 1, To: 7}}, Cost: 1000, Kind: 1,
			},
			{From: 2, To: 1, Guard: []api.Con{{Clock: 2, Lower: true, Strict: true, C: 9}}, Chan: 2, Send: true, Sets: []api.NSet{{Var: 1, Val: expOf("w")}}},
			{From: 2, To: 2, Cond: expOf("1"), Chan: 3},
			{From: 0, To: 0, Chan: 1, Send: true},
			{From: 1, To: 1, Guard: []api.Con{{Clock: 1, Lower: true}, {Clock: 2, C: 3}, {Clock: 2, Lower: true, C: 3}}, Cond: expOf("v"), Chan: -1, Resets: []api.Reset{{Clock: 2, To: 8}}},
		},
	}, {
		Locs:  []api.NLoc{{Kind: api.LocCommitted}},
		Edges: []api.NEdge{{Guard: []api.Con{{Clock: 1, C: 4}}}, {Chan: 1, Cost: 1}},
	}}
	return m
}

// P12.2: the net of a model in which each part stands.
func TestCompile(t *testing.T) {
	if n := compiled(t, fullText); plain(n) != plain(fullNet()) {
		t.Errorf("%s, want %s", plain(n), plain(fullNet()))
	}
	n := compiled(t, "model m; process P init A { loc B; loc A; edge B -> A; }")
	want := api.Net{Procs: []api.NProc{{Init: 1, Locs: []api.NLoc{{}, {}}, Edges: []api.NEdge{{To: 1, Chan: -1}}}}}
	if plain(n) != plain(want) {
		t.Errorf("%s, want %s", plain(n), plain(want))
	}
}

// P12.2, P12.5: other names of processes, locations and clocks make no difference.
func TestOtherNames(t *testing.T) {
	want := plain(fullNet())
	for from, to := range map[string]string{
		"process P ": "process p ", "process Q ": "process n1 ", "K": "x", "L": "n0", "M": "v", "clock x, y": "clock X, y",
	} {
		text := strings.ReplaceAll(fullText, from, to)
		if to == "clock X, y" {
			text = strings.NewReplacer("x ", "X ", "x,", "X,").Replace(text)
		}
		if n := compiled(t, text); text == fullText || plain(n) != want {
			t.Errorf("with %q: %s, want %s", to, plain(n), want)
		}
	}
	text := strings.NewReplacer("x ", "y ", "x,", "y,", "y ", "x ", "y;", "x;").Replace(fullText)
	if n := compiled(t, text); plain(n) != want {
		t.Errorf("with clocks that change names: %s, want %s", plain(n), want)
	}
	for _, same := range []string{fullText, strings.Replace(fullText, "model full", "model v", 1)} {
		if n := compiled(t, same); plain(n) != want {
			t.Errorf("with another name: %s, want %s", plain(n), want)
		}
	}
}

// P12.3: nets that are valid.
func TestValidNets(t *testing.T) {
	checkValid(t, "the full one", fullNet(), api.OK)
	checkValid(t, "the least one", api.Net{Procs: []api.NProc{{Locs: []api.NLoc{{}}}}}, api.OK)
	checkValid(t, "empty lists", api.Net{Vars: []api.Var{}, Chans: []api.Chan{}, Funcs: []api.Func{}, Procs: []api.NProc{{Locs: []api.NLoc{{Inv: []api.Con{}}}, Edges: []api.NEdge{
		{Chan: -1, Guard: []api.Con{}, Cond: api.Exp{Args: []api.Exp{}}, Sets: []api.NSet{}, Resets: []api.Reset{}},
	}}}}, api.OK)
	for clocks := range 9 {
		checkValid(t, fmt.Sprint(clocks, " clocks"), api.Net{Clocks: clocks, Procs: []api.NProc{{Locs: []api.NLoc{{}}}}}, api.OK)
	}
	n := fullNet()
	for k := range n.Vars { // names that one might give to clocks and processes
		n.Vars[k].Name = []string{"n0", "n1"}[k]
	}
	n.Chans[0].Name, n.Chans[1].Name, n.Chans[2].Name, n.Chans[3].Name = "n2", "x", "P", "c1"
	n.Funcs, n.Procs[0].Edges = funcsOf("func n3(n5) { return n1; } func n4() { return n3(n0); }"), nil
	checkValid(t, "names with numbers", n, api.OK)
}

// P12.3: what breaks a net.
func TestNetsThatAreNotValid(t *testing.T) {
	first := func(n *api.Net) *api.NEdge { return &n.Procs[0].Edges[0] }
	inv := func(n *api.Net) *api.Con { return &n.Procs[0].Locs[1].Inv[1] }
	for k, spoil := range []func(n *api.Net){
		func(n *api.Net) { *n = api.Net{} }, func(n *api.Net) { n.Procs = nil }, func(n *api.Net) { n.Procs[1].Locs = nil },
		func(n *api.Net) { n.Clocks = 1 }, func(n *api.Net) { n.Clocks = 9 }, func(n *api.Net) { n.Clocks = -1 }, func(n *api.Net) { n.Clocks = 1 << 62 }, func(n *api.Net) { n.Clocks = -1 << 63 },
		func(n *api.Net) { n.Vars[1].Name = "v" }, func(n *api.Net) { n.Vars[1].Name = "a" }, func(n *api.Net) { n.Vars[1].Name = "f" }, func(n *api.Net) { n.Vars[1].Name = "" },
		func(n *api.Net) { n.Vars[1].Name = "if" }, func(n *api.Net) { n.Vars[1].Name = "?" }, func(n *api.Net) { n.Vars[1].Init = 2 }, func(n *api.Net) { n.Vars[1].Init = -1 },
		func(n *api.Net) { n.Vars[0].High = 1<<31 + 1 }, func(n *api.Net) { n.Vars[0].Low = -1<<31 - 1 },
		func(n *api.Net) { n.Chans[3].Name = "c" }, func(n *api.Net) { n.Chans[3].Name = "g" }, func(n *api.Net) { n.Chans[3].Name = "" }, func(n *api.Net) { n.Chans[3].Name = "sixteen_Letters99" },
		func(n *api.Net) { n.Funcs[1].Name = "f" }, func(n *api.Net) { n.Funcs[1].Body = n.Funcs[1].Body[:1] }, func(n *api.Net) { n.Funcs[0].Params = []string{"p", "p"} }, func(n *api.Net) { n.Funcs[0].Name = "?" },
		func(n *api.Net) { n.Procs[0].Init = 3 }, func(n *api.Net) { n.Procs[0].Init = -1 }, func(n *api.Net) { n.Procs[1].Init = 1 }, func(n *api.Net) { n.Procs[1].Init = 1 << 62 },
		func(n *api.Net) { n.Procs[0].Locs[1].Kind = 3 }, func(n *api.Net) { n.Procs[0].Locs[1].Kind = -1 }, func(n *api.Net) { n.Procs[0].Locs[1].Rate = -1 }, func(n *api.Net) { n.Procs[0].Locs[1].Rate = 1001 },
		func(n *api.Net) { inv(n).Clock = 0 }, func(n *api.Net) { inv(n).Clock = 3 }, func(n *api.Net) { inv(n).Clock = -1 }, func(n *api.Net) { inv(n).Clock = -1 << 63 }, func(n *api.Net) { inv(n).Lower = true },
		func(n *api.Net) { inv(n).Strict = true }, func(n *api.Net) { inv(n).C = -1 }, func(n *api.Net) { inv(n).C = 1<<20 + 1 },
		func(n *api.Net) { first(n).From = 3 }, func(n *api.Net) { first(n).From = -1 }, func(n *api.Net) { first(n).To = 3 }, func(n *api.Net) { first(n).To = -1 },
		func(n *api.Net) { n.Procs[1].Edges[1].To = 1 }, func(n *api.Net) { n.Procs[1].Edges[1].From = 2 },
		func(n *api.Net) { first(n).Guard[2].Clock = 0 }, func(n *api.Net) { first(n).Guard[2].Clock = 3 }, func(n *api.Net) { first(n).Guard[2].C = -1 }, func(n *api.Net) { first(n).Guard[2].C = 1<<20 + 1 },
		func(n *api.Net) { first(n).Cond = expOf("u") }, func(n *api.Net) { first(n).Cond = expOf("f(1)") }, func(n *api.Net) { first(n).Cond = api.Exp{Name: "v"} }, func(n *api.Net) { first(n).Cond = api.Exp{Int: 1} },
		func(n *api.Net) { first(n).Chan = 4 }, func(n *api.Net) { first(n).Chan = -2 }, func(n *api.Net) { first(n).Chan = -1 }, func(n *api.Net) { first(n).Chan = 1 }, func(n *api.Net) { first(n).Chan = 3 },
		func(n *api.Net) { n.Procs[0].Edges[1].Send = false }, func(n *api.Net) { n.Procs[0].Edges[4].Send = true }, func(n *api.Net) { n.Procs[0].Edges[2].Chan = 1 << 40 },
		func(n *api.Net) { first(n).Sets[0].Var = 2 }, func(n *api.Net) { first(n).Sets[0].Var = -1 }, func(n *api.Net) { first(n).Sets[0].Val = api.Exp{} }, func(n *api.Net) { first(n).Sets[2].Val = expOf("g(1)") },
		func(n *api.Net) { first(n).Resets[0].Clock = 0 }, func(n *api.Net) { first(n).Resets[0].Clock = 3 }, func(n *api.Net) { first(n).Resets[0].To = -1 }, func(n *api.Net) { first(n).Resets[0].To = 1<<20 + 1 },
		func(n *api.Net) { first(n).Cost = -1 }, func(n *api.Net) { first(n).Cost = 1001 }, func(n *api.Net) { first(n).Kind = 2 }, func(n *api.Net) { first(n).Kind = -1 }, func(n *api.Net) { first(n).Kind = 1 << 32 },
	} {
		n := fullNet()
		spoil(&n)
		checkValid(t, fmt.Sprint("change ", k), n, api.ErrArg)
	}
}

// P12.3: a net is small.
func TestSizesOfNets(t *testing.T) {
	con, set := api.Con{Clock: 1, C: 1}, api.NSet{Val: expOf("1")}
	sizes := []struct {
		what  string
		most  int
		spoil func(n *api.Net, size int)
	}{
		{"variables", 16, func(n *api.Net, size int) {
			for k := len(n.Vars); k < size; k++ {
				n.Vars = append(n.Vars, api.Var{Name: fmt.Sprint("u", k)})
			}
		}},
		{"channels", 16, func(n *api.Net, size int) {
			for k := len(n.Chans); k < size; k++ {
				n.Chans = append(n.Chans, api.Chan{Name: fmt.Sprint("u", k)})
			}
		}},
		{"functions", 8, func(n *api.Net, size int) {
			for k := len(n.Funcs); k < size; k++ {
				n.Funcs = append(n.Funcs, funcsOf(fmt.Sprint("func u", k, "() { return 1; }"))...)
			}
		}},
		{"processes", 6, func(n *api.Net, size int) {
			n.Procs = append(n.Procs, slices.Repeat([]api.NProc{n.Procs[1]}, size-2)...)
		}},
		{"locations", 20, func(n *api.Net, size int) { n.Procs[1].Locs = make([]api.NLoc, size) }},
		{"edges", 60, func(n *api.Net, size int) { n.Procs[1].Edges = slices.Repeat(n.Procs[1].Edges[1:], size) }},
		{"tests of an invariant", 16, func(n *api.Net, size int) { n.Procs[0].Locs[0].Inv = slices.Repeat([]api.Con{con}, size) }},
		{"tests of an edge", 16, func(n *api.Net, size int) { n.Procs[1].Edges[0].Guard = slices.Repeat([]api.Con{con}, size) }},
		{"sets", 16, func(n *api.Net, size int) { n.Procs[1].Edges[0].Sets = slices.Repeat([]api.NSet{set}, size) }},
		{"resets", 16, func(n *api.Net, size int) {
			n.Procs[1].Edges[0].Resets = slices.Repeat([]api.Reset{{Clock: 2}}, size)
		}},
		{"nodes of a condition", 400, func(n *api.Net, size int) { n.Procs[1].Edges[0].Cond = nodes(size) }},
		{"nodes of a value", 400, func(n *api.Net, size int) { n.Procs[1].Edges[0].Sets = []api.NSet{{Val: nodes(size)}} }},
	}
	for _, s := range sizes {
		for size := s.most - 1; size <= s.most+2; size++ {
			n, want := fullNet(), api.OK
			s.spoil(&n, size)
			if size > s.most {
				want = api.ErrArg
			}
			checkValid(t, fmt.Sprint(size, " ", s.what), n, want)
		}
	}
}

// nodes returns an expression with a number of nodes, from 3 on.
func nodes(count int) api.Exp {
	switch {
	case count <= 1:
		return expOf("1")
	case count == 2:
		return api.Exp{Kind: api.ExNot, Args: []api.Exp{expOf("1")}}
	}
	half := (count - 1) / 2
	return api.Exp{Kind: api.ExAdd, Args: []api.Exp{nodes(half), nodes(count - 1 - half)}}
}

// checkGreatest checks the constants of a net.
func checkGreatest(t *testing.T, n api.Net, want ...int64) {
	t.Helper()
	if l, e := checks.Greatest(n); e != api.OK || !slices.Equal(l, want) {
		t.Errorf("Greatest of %s is %v, %d; want %v", short(n), l, e, want)
	}
}

// P12.4: the greatest constants.
func TestGreatest(t *testing.T) {
	checkGreatest(t, fullNet(), 1<<20, 1<<20)
	checkGreatest(t, compiled(t, "model m; process P init A { loc A; }"))
	for text, want := range map[string][]int64{
		"loc A;":                                                              {-1, -1, -1},
		"loc A inv y <= 0;":                                                   {-1, 0, -1},
		"loc A inv x < 3 && x <= 2;":                                          {3, -1, -1},
		"loc A inv x <= 2 && x < 3;":                                          {3, -1, -1},
		"loc A inv z <= 7; loc B inv z <= 9;":                                 {-1, -1, 9},
		"loc A; edge A -> A when y > 5;":                                      {-1, 5, -1},
		"loc A; edge A -> A when y < 5 && z == 0":                             {-1, 5, 0},
		"loc A; edge A -> A reset z = 4, x = 0;":                              {0, -1, 4},
		"loc A inv x < 6; edge A -> A when x >= 7 reset x = 8;":               {8, -1, -1},
		"loc A inv x < 8; edge A -> A when x >= 7 reset x = 6;":               {8, -1, -1},
		"loc A inv x < 7; edge A -> A when x >= 8 reset x = 6;":               {8, -1, -1},
		"loc A; edge A -> A reset x = 1; edge A -> A when x > 2 reset y = 3;": {2, 3, -1},
	} {
		if !strings.HasSuffix(text, ";") {
			text += ";"
		}
		other := "process Q init A { loc A; edge A -> A reset z = 1; }"
		checkGreatest(t, compiled(t, inProcess("clock x, y, z;", text)), want...)
		with := append([]int64{}, want...)
		with[2] = max(with[2], 1)
		checkGreatest(t, compiled(t, inProcess("clock x, y, z;", text)+other), with...)
		checkGreatest(t, compiled(t, "model m; clock x, y, z; "+other+"process P init A { "+text+" }"), with...)
	}
}

package checks_test

import (
	"fmt"
	"strings"
	"testing"

	"foliot/api"
	"foliot/checks"
)

// inProcess returns a model with the process P, and what stands in front of it.
func inProcess(declared, text string) string {
	return "model m; " + declared + " process P init A { " + text + " }"
}

// P12.1: the chapter's examples.
func TestCheckExamples(t *testing.T) {
	text := "model m; clock x; process P init A { loc A inv x <= 2; edge A -> A when x == 2 reset x = 0; }"
	checkTexts(t, 0, api.OK, text)
	checkTexts(t, -1, api.ErrName, strings.Replace(text, "clock x", "clock x, P", 1))
	checkTexts(t, 0, api.ErrName, strings.Replace(text, "init A", "init B", 1))
	checkTexts(t, 0, api.ErrRule, strings.Replace(text, "inv x <= 2", "inv x < 0", 1), strings.Replace(text, "inv x <= 2", "rate 1001", 1))
	checkTexts(t, -1, api.ErrRule, "model m;")
	checkTexts(t, 0, api.ErrRule, inProcess("clock x; urgent chan a;", "loc A; edge A -> A when x > 1 sync a!;"))
	checkTexts(t, 0, api.OK, fullText)
}

// P12.1: the error of network.Form comes first, with 0.
func TestErrorsOfForm(t *testing.T) {
	m := parsed(t, fullText)
	m.Name = ""
	checkCheck(t, "no name", m, 0, api.ErrArg)
	m.Clocks = []string{"x", "x"}
	checkCheck(t, "no name, and another error", m, 0, api.ErrArg)
	checkCheck(t, "the zero model", api.Model{}, 0, api.ErrArg)
	for _, m := range []api.Model{parsed(t, fullText), {Name: "m"}} {
		m.Clocks = strings.Split("x x x x x x x x x", " ")
		checkCheck(t, "nine clocks", m, 0, api.ErrLong)
	}
	m = parsed(t, fullText)
	m.Procs[1].Edges[0].Sets = []api.Assign{{Name: "v"}}
	checkCheck(t, "no value", m, 0, api.ErrArg)
	m.Procs[1].Edges[0].Sets, m.Procs[1].Edges[0].Cond = nil, api.Exp{Name: "v"}
	checkCheck(t, "no condition", m, 0, api.ErrArg)
}

// P12.1: what takes part in the rule about different names.
func TestNamesOfDeclarations(t *testing.T) {
	parts := []string{"clock NAME;", "var NAME in 0..0 = 0;", "chan NAME;", "func NAME() { return 1; }", "process NAME init A { loc A; }"}
	for k, first := range parts {
		for n := k; n < len(parts); n++ {
			for _, name := range []string{"u", "v"} {
				text := "model m; clock c; var d in 0..0 = 0; chan e; " // the order of clocks, variables and channels is free
				text += strings.ReplaceAll(first, "NAME", "u") + " " + strings.ReplaceAll(parts[n], "NAME", name)
				if n < 4 {
					text += " process P init A { loc A; }"
				}
				at, want := 0, api.OK
				if name == "u" {
					at, want = -1, api.ErrName
				}
				checkTexts(t, at, want, text)
			}
		}
	}
	checkTexts(t, 0, api.OK,
		inProcess("", "loc A;"), "model P; process P init P { loc P; }", inProcess("clock A;", "loc A;"),
		"model m; clock x, X, xx; chan c, C; process P init x { loc x; loc c; } process Q init x { loc P; loc x; }",
		inProcess("clock p, q; func f(p) { var q = p; return q; }", "loc A;"), inProcess("chan p; func f(p) { return p; }", "loc A;"),
	)
	checkTexts(t, -1, api.ErrName,
		inProcess("clock x, y, x;", "loc A;"), inProcess("clock x; clock y; clock x;", "loc A;"), "model m; process P init A { loc A; } process Q init A { loc A; } process P init B { loc B; }",
		inProcess("func f() { return 1; } func g() { return 2; } func f() { return 3; }", "loc A;"),
	)
}

// P12.1: Low <= Init <= High.
func TestRangesOfVariables(t *testing.T) {
	for low := -2; low <= 2; low++ {
		for high := -2; high <= 2; high++ {
			for init := -3; init <= 3; init++ {
				at, want := -1, api.ErrRule
				if low <= init && init <= high {
					at, want = 0, api.OK
				}
				one := fmt.Sprintf("var NAME in %d..%d = %d; ", low, high, init)
				checkTexts(t, at, want, inProcess(strings.ReplaceAll(one, "NAME", "v"), "loc A;"), inProcess("var u in 0..0 = 0; "+strings.ReplaceAll(one, "NAME", "v"), "loc A;"))
			}
		}
	}
	checkTexts(t, 0, api.OK, inProcess("var v in -2147483648..2147483648 = 2147483648;", "loc A;"), inProcess("var v in -2147483648..2147483648 = -2147483648;", "loc A;"))
}

// P12.1: the errors of the functions, which know the variables.
func TestFunctionsOfModels(t *testing.T) {
	checkTexts(t, -1, api.ErrName,
		inProcess("func f() { return v; }", "loc A;"), inProcess("clock v; func f() { return v; }", "loc A;"), inProcess("chan v; func f() { return v; }", "loc A;"),
		inProcess("var v in 0..1 = 0; func f(v) { return v; }", "loc A;"), inProcess("var v in 0..1 = 0; func f() { v = 1; return v; }", "loc A;"),
		inProcess("var v in 0..1 = 0; func f() { var v = 1; return v; }", "loc A;"), inProcess("func f() { return g(); } func g() { return 1; }", "loc A;"), inProcess("func f() { return P(); }", "loc A;"),
	)
	checkTexts(t, -1, api.ErrCount, inProcess("func f() { return 1; } func g() { return f(1); }", "loc A;"))
	checkTexts(t, -1, api.ErrReturn, inProcess("func f() { }", "loc A;"), "model m; func f() { }")
	checkTexts(t, 0, api.OK, inProcess("var u in 0..1 = 0; var v in 0..1 = 0; func f() { return u + v; } func g() { return f(); }", "loc A;"))
}

// P12.1: locations, and the first one.
func TestLocations(t *testing.T) {
	checkTexts(t, 0, api.ErrRule, "model m; process P init A { }", "model m; process P init A { edge A -> A; }", "model m; process P init A { } process Q init A { }")
	checkTexts(t, 1, api.ErrRule, "model m; process P init A { loc A; } process Q init A { }")
	checkTexts(t, 0, api.ErrName,
		inProcess("", "loc A; loc A;"), inProcess("", "loc A; loc B; loc B;"), inProcess("", "loc B; loc A; loc C; loc B;"), inProcess("", "loc B;"), inProcess("clock A;", "loc a;"),
		"model m; process P init B { loc A; } process Q init A { loc B; }",
	)
	checkTexts(t, 1, api.ErrName, "model m; process P init B { loc B; } process Q init B { loc A; }", "model m; process P init B { loc B; } process Q init A { loc A; loc A; } process R init A { }")
	checkTexts(t, 0, api.OK, inProcess("", "loc C; loc B; loc A;"), "model m; process P init B { loc B; loc A; } process Q init A { loc A; }")
}

// withNumber returns texts with each of the numbers in the place of N.
func withNumber(text string, numbers ...int) []string {
	var l []string
	for _, n := range numbers {
		l = append(l, strings.ReplaceAll(text, "N", fmt.Sprint(n)))
	}
	return l
}

// P12.1: the tests of invariants, and rates.
func TestInvariants(t *testing.T) {
	in := func(text string) string { return inProcess("clock x, y; var v in 0..1 = 0;", "loc B; loc A "+text+";") }
	good := []int{1, 2, 1<<20 - 1, 1 << 20}
	checkTexts(t, 0, api.OK, withNumber(in("inv x <= N"), append(good, 0)...)...)
	checkTexts(t, 0, api.OK, withNumber(in("inv y < N"), good...)...)
	checkTexts(t, 0, api.ErrRule, withNumber(in("inv y < N"), 0, -1, 1<<20+1, -1<<31, 1<<31)...)
	checkTexts(t, 0, api.ErrRule, withNumber(in("inv x <= N"), -1, 1<<20+1)...)
	for _, op := range []string{">", ">=", "=="} {
		checkTexts(t, 0, api.ErrRule, withNumber(in("inv x "+op+" N"), append(good, 0, -1)...)...)
	}
	checkTexts(t, 0, api.ErrRule, in("inv x <= 1 && y <= 1 && x > 1"), in("inv x <= 1 && y < 0"))
	checkTexts(t, 0, api.ErrName, in("inv z <= 1"), in("inv v <= 1"), in("inv A <= 1"), in("inv P <= 1"), in("inv x <= 1 && z <= 1"), in("inv z < 0"), in("inv z > 1"))
	checkTexts(t, 0, api.ErrRule, in("inv x < 0 && z <= 1"), in("inv x >= 0 && z <= 1"), in("inv x <= -1 && z <= 1"))
	checkTexts(t, 0, api.OK, withNumber(in("rate N"), 0, 1, 999, 1000)...)
	checkTexts(t, 0, api.ErrRule, withNumber(in("rate N"), -1, 1001, -1<<31, 1<<31)...)
	checkTexts(t, 0, api.ErrName, in("inv z <= 1 rate 1001"))
	checkTexts(t, 0, api.ErrRule, inProcess("", "loc A rate 1001; loc B inv x < 1;"))
	checkTexts(t, 0, api.ErrName, inProcess("", "loc A inv x < 1; loc B rate 1001;"))
}

// P12.1: each part of an edge.
func TestEdges(t *testing.T) {
	declared := "clock x, y; var v in 0..1 = 0; var w in 0..1 = 0; chan a, b; func f(p) { return p; }"
	in := func(text string) string { return inProcess(declared, "loc A; loc B; edge "+text+";") }
	on := func(text string) string { return in("A -> B " + text) }
	checkTexts(t, 0, api.OK, in("A -> B"), in("B -> A"), in("B -> B"))
	checkTexts(t, 0, api.ErrName, in("A -> C"), in("C -> A"), in("C -> C"), in("A -> P"), in("x -> A"), in("A -> a"))
	for _, op := range []string{"<", "<=", ">", ">=", "=="} {
		checkTexts(t, 0, api.OK, withNumber(on("when x "+op+" N && y <= 1"), 0, 1, 1<<20)...)
		checkTexts(t, 0, api.ErrRule, withNumber(on("when y <= 1 && x "+op+" N"), -1, 1<<20+1, -1<<31, 1<<31)...)
		checkTexts(t, 0, api.ErrName, on("when z "+op+" 1"), on("when v "+op+" 1"), on("when x <= 1 && B "+op+" 1"))
	}
	checkTexts(t, 0, api.OK, on("if 0"), on("if v + f(w)"), on("if 1 / 0"))
	checkTexts(t, 0, api.ErrName, on("if p"), on("if x"), on("if A"), on("if a"), on("if f"), on("if v + g(1)"), on("if P"))
	checkTexts(t, 0, api.ErrCount, on("if f()"), on("if v && f(1, 2)"))
	checkTexts(t, 0, api.OK, on("sync a!"), on("sync b?"))
	checkTexts(t, 0, api.ErrName, on("sync c!"), on("sync c?"), on("sync v!"), on("sync x?"), on("sync A!"))
	checkTexts(t, 0, api.OK, on("do v = 2"), on("do v = w, w = v, v = f(5)"), on("do v = 1 / 0"))
	checkTexts(t, 0, api.ErrName, on("do u = 1"), on("do x = 1"), on("do p = 1"), on("do f = 1"), on("do v = 1, a = 1"), on("do v = u"), on("do v = 1, w = x"))
	checkTexts(t, 0, api.ErrCount, on("do v = f()"), on("do v = f(), u = 1"))
	checkTexts(t, 0, api.ErrName, on("do u = f()"), on("do u = 1, v = f()"))
	checkTexts(t, 0, api.OK, withNumber(on("reset x = 1, y = N"), 0, 1, 1<<20)...)
	checkTexts(t, 0, api.ErrRule, withNumber(on("reset x = 1, y = N"), -1, 1<<20+1, -1<<31, 1<<31)...)
	checkTexts(t, 0, api.ErrName, on("reset z = 1"), on("reset x = 1, v = 1"), on("reset z = -1"), on("reset P = 1"))
	checkTexts(t, 0, api.ErrRule, on("reset x = -1, z = 1"))
	checkTexts(t, 0, api.OK, withNumber(on("cost N"), 0, 1, 1000)...)
	checkTexts(t, 0, api.ErrRule, withNumber(on("cost N"), -1, 1001, -1<<31, 1<<31)...)
	checkTexts(t, 0, api.OK, withNumber(on("kind N"), 0, 1)...)
	checkTexts(t, 0, api.ErrRule, withNumber(on("kind N"), -1, 2, -1<<31, 1<<31)...)
}

// P12.1: edges without tests.
func TestTestsOfChannels(t *testing.T) {
	for _, c := range []struct {
		declared   string
		send, hear api.Errno
	}{
		{"chan a;", api.OK, api.OK}, {"urgent chan a;", api.ErrRule, api.ErrRule},
		{"broadcast chan a;", api.OK, api.ErrRule}, {"broadcast urgent chan a;", api.ErrRule, api.ErrRule},
	} {
		for _, other := range []string{"", "urgent chan c;", "broadcast chan c;", "chan c;"} {
			declared := "clock x; " + other + c.declared
			for _, test := range []string{"x > 1", "x == 1", "x <= 0", "x >= 0"} {
				checkTexts(t, 0, c.send, inProcess(declared, "loc A; edge A -> A when "+test+" sync a!;"))
				checkTexts(t, 0, c.hear, inProcess(declared, "loc A; edge A -> A when "+test+" sync a?;"))
				checkTexts(t, 0, api.OK, inProcess(declared, "loc A; edge A -> A when "+test+";"))
			}
			checkTexts(t, 0, api.OK, inProcess(declared, "loc A inv x < 1; edge A -> A if 1 sync a! reset x = 1; edge A -> A if 1 sync a? reset x = 1;"))
		}
	}
}

// P12.1: the index is that of the first process with an error.
func TestIndexOfTheProcess(t *testing.T) {
	good := "process NAME init A { loc A; } "
	for wrong, want := range map[string]api.Errno{
		"process NAME init A { }": api.ErrRule, "process NAME init B { loc A; }": api.ErrName, "process NAME init A { loc A rate 1001; }": api.ErrRule,
		"process NAME init A { loc A; edge A -> A; edge A -> A if f(1); }": api.ErrCount, "process NAME init A { loc A; edge A -> A; edge A -> B; }": api.ErrName,
	} {
		for at := range 6 {
			for next := at; next < 6; next++ {
				text := "model m; func f() { return 1; } "
				for k := range 6 {
					one := good
					if k == at {
						one = wrong
					} else if k == next {
						one = "process NAME init B { }"
					}
					text += strings.ReplaceAll(one, "NAME", fmt.Sprint("P", k))
				}
				checkTexts(t, at, want, text)
			}
		}
	}
}

// P12.1, rule R1: lists that contain themselves, and expressions that share their parts.
func TestCircles(t *testing.T) {
	circle := api.Exp{Kind: api.ExNot, Args: make([]api.Exp, 1)}
	circle.Args[0] = circle
	loop := []api.Stmt{{Kind: api.StWhile, Val: expOf("1")}}
	loop[0].Body = loop
	wide := expOf("1")
	for range 100 {
		wide = api.Exp{Kind: api.ExAdd, Args: []api.Exp{wide, wide}}
	}
	for _, spoil := range []func(m *api.Model){
		func(m *api.Model) { m.Funcs[0].Body = loop },
		func(m *api.Model) { m.Procs[1].Edges[1].Cond = circle },
		func(m *api.Model) { m.Procs[1].Edges[1].Sets = []api.Assign{{Name: "v", Val: circle}} },
		func(m *api.Model) { m.Procs[1].Edges[1].Cond = wide },
	} {
		m := parsed(t, fullText)
		spoil(&m)
		checkCheck(t, "a circle", m, 0, api.ErrLong)
	}
	n := compiled(t, fullText)
	for _, spoil := range []func(n *api.Net){
		func(n *api.Net) { n.Funcs[0].Body = loop },
		func(n *api.Net) { n.Procs[1].Edges[1].Cond = circle },
		func(n *api.Net) { n.Procs[1].Edges[1].Sets = []api.NSet{{Val: circle}} },
		func(n *api.Net) { n.Procs[1].Edges[1].Cond = wide },
	} {
		m := n
		m.Funcs, m.Procs = append([]api.Func{}, n.Funcs...), append([]api.NProc{}, n.Procs...)
		m.Procs[1].Edges = append([]api.NEdge{}, n.Procs[1].Edges...)
		checkValid(t, "without a circle", m, api.OK)
		spoil(&m)
		checkValid(t, "a circle", m, api.ErrArg)
	}
	if e := checks.Valid(n); e != api.OK {
		t.Errorf("the net itself is changed: %d", e)
	}
}

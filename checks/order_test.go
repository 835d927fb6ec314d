package checks_test

import (
	"fmt"
	"testing"

	"foliot/api"
)

// fault is an error of a model: what makes it, and what Check then says.
type fault struct {
	what  string
	at    int
	e     api.Errno
	spoil func(m *api.Model)
}

// locFaults are the faults of a process with a number before those of its edges, in their order.
func locFaults(at int) []fault {
	one := func(what string, e api.Errno, spoil func(p *api.Proc)) fault {
		return fault{fmt.Sprint("process ", at, ": ", what), at, e, func(m *api.Model) { spoil(&m.Procs[at]) }}
	}
	test := func(what string, loc, k int, e api.Errno, spoil func(t *api.Test)) fault {
		return one(fmt.Sprint("loc ", loc, ", test ", k, ": ", what), e, func(p *api.Proc) { spoil(&p.Locs[loc].Inv[k]) })
	}
	return []fault{
		one("a name twice", api.ErrName, func(p *api.Proc) { p.Locs[3].Name = p.Locs[0].Name }),
		one("Init", api.ErrName, func(p *api.Proc) { p.Init = "Z" }),
		test("lower", 0, 0, api.ErrRule, func(t *api.Test) { t.Lower = true }),
		test("clock", 0, 1, api.ErrName, func(t *api.Test) { t.Clock = "z" }),
		test("constant", 0, 2, api.ErrRule, func(t *api.Test) { t.C = -1 }),
		one("loc 0: rate", api.ErrRule, func(p *api.Proc) { p.Locs[0].Rate = 1001 }),
		test("clock", 1, 0, api.ErrName, func(t *api.Test) { t.Clock = "z" }),
		test("strict", 1, 1, api.ErrRule, func(t *api.Test) { t.Strict, t.C = true, 0 }),
		test("clock", 1, 2, api.ErrName, func(t *api.Test) { t.Clock = "z" }),
		one("loc 1: rate", api.ErrRule, func(p *api.Proc) { p.Locs[1].Rate = -1 }),
		test("clock", 2, 0, api.ErrName, func(t *api.Test) { t.Clock = "z" }),
	}
}

// edgeFaults are the faults of an edge, in their order; the last one is that the channel allows no tests.
func edgeFaults(at, edge int) []fault {
	one := func(what string, e api.Errno, spoil func(x *api.Edge)) fault {
		return fault{fmt.Sprint("process ", at, ", edge ", edge, ": ", what), at, e, func(m *api.Model) { spoil(&m.Procs[at].Edges[edge]) }}
	}
	return []fault{
		one("To", api.ErrName, func(x *api.Edge) { x.To = "Z" }),
		one("constant 0", api.ErrRule, func(x *api.Edge) { x.Tests[0].C = -1 }),
		one("clock 1", api.ErrName, func(x *api.Edge) { x.Tests[1].Clock = "z" }),
		one("constant 2", api.ErrRule, func(x *api.Edge) { x.Tests[2].C = 1<<20 + 1 }),
		one("condition", api.ErrCount, func(x *api.Edge) { x.Cond = expOf("f()") }),
		one("set 0", api.ErrName, func(x *api.Edge) { x.Sets[0].Name = "z" }),
		one("value 0", api.ErrCount, func(x *api.Edge) { x.Sets[0].Val = expOf("f(1, 2)") }),
		one("set 1", api.ErrName, func(x *api.Edge) { x.Sets[1].Name = "z" }),
		one("value 1", api.ErrCount, func(x *api.Edge) { x.Sets[1].Val = expOf("f()") }),
		one("clear 0", api.ErrRule, func(x *api.Edge) { x.Clears[0].To = -1 }),
		one("clear 1", api.ErrName, func(x *api.Edge) { x.Clears[1].Clock = "z" }),
		one("cost", api.ErrRule, func(x *api.Edge) { x.Cost = 1001 }),
		one("kind", api.ErrRule, func(x *api.Edge) { x.Kind = 2 }),
		one("urgent", api.ErrRule, func(x *api.Edge) { x.Chan = "u" }),
	}
}

// allFaults are faults in the order in which they are examined.
func allFaults() []fault {
	l := []fault{
		{"no form", 0, api.ErrArg, func(m *api.Model) { m.Name = "" }},
		{"long", 0, api.ErrLong, func(m *api.Model) { m.Clocks = append(m.Clocks, m.Clocks[0], "d", "e", "g", "h", "k", "l", "n") }},
		{"a clock twice", -1, api.ErrName, func(m *api.Model) { m.Clocks = append(m.Clocks, m.Clocks[0]) }},
		{"a variable's range", -1, api.ErrRule, func(m *api.Model) { m.Vars[1].Low = 5 }},
		{"a function's number", -1, api.ErrCount, func(m *api.Model) { m.Funcs[1].Body[0].Val = expOf("f()") }},
		{"a function without return", -1, api.ErrReturn, func(m *api.Model) { m.Funcs[2].Body = nil }},
	}
	for at := range 2 {
		l = join(l, locFaults(at), edgeFaults(at, 0), edgeFaults(at, 1))
	}
	return l
}

const orderText = `model m; clock x, y; var v in 0..1 = 0; var w in 0..1 = 0; chan a; urgent chan u;
func f(p) { return p; } func g() { return f(1); } func h() { return 1; }
PROCESSES`

const orderProcess = `init A {
	loc A inv x <= 1 && y < 2 && x <= 3 rate 1; loc B inv x <= 1 && y < 2 && x <= 3; loc C inv x < 1; loc D;
	edge A -> B when x > 1 && y < 2 && x == 1 if v sync a! do v = f(1), w = 2 reset x = 1, y = 2 cost 3 kind 1;
	edge A -> B when x > 1 && y < 2 && x == 1 if v sync a? do v = f(1), w = 2 reset x = 1, y = 2 cost 3 kind 1;
}`

func orderModel(t *testing.T) api.Model {
	t.Helper()
	return parsed(t, orderText[:len(orderText)-len("PROCESSES")]+"process P "+orderProcess+" process Q "+orderProcess)
}

// P12.1: of two errors the one that is examined first is told.
func TestOrderOfErrors(t *testing.T) {
	l := allFaults()
	checkCheck(t, "no fault", orderModel(t), 0, api.OK)
	for k, first := range l {
		for _, second := range l[k:] {
			m := orderModel(t)
			second.spoil(&m) // a later fault must not undo the earlier one
			first.spoil(&m)
			checkCheck(t, first.what+", "+second.what, m, first.at, first.e)
		}
	}
}

// P12.1: no process, and no location, come at their places among the rules.
func TestOrderOfMissingParts(t *testing.T) {
	for k, f := range allFaults()[:6] {
		m := orderModel(t)
		f.spoil(&m)
		m.Procs = nil
		checkCheck(t, f.what+", no process", m, f.at, f.e)
		m = orderModel(t)
		f.spoil(&m)
		m.Procs[0].Locs = nil
		checkCheck(t, f.what+", no location", m, f.at, f.e)
		if k == 0 {
			m.Name = "m"
			checkCheck(t, "no location", m, 0, api.ErrRule)
		}
	}
	for _, f := range allFaults()[6:] {
		m := orderModel(t)
		f.spoil(&m)
		m.Procs[f.at].Locs = nil
		checkCheck(t, f.what+", no location", m, f.at, api.ErrRule)
		m.Procs = nil
		checkCheck(t, f.what+", no process", m, -1, api.ErrRule)
	}
}

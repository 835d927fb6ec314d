package network

import (
	"slices"

	"foliot/api"
	"foliot/syntax"
)

// reader reads a model: each method a rule of the grammar.
type reader struct {
	*syntax.Reader
	model api.Model
}

func readModel(tokens *syntax.Reader) api.Model {
	r := &reader{Reader: tokens}
	r.Expect("model")
	r.model.Name = r.Name()
	r.Expect(";")
	r.declarations()
	r.model.Funcs = many(r, "func", r.Function)
	r.model.Procs = many(r, "process", r.process)
	return r.model
}

// many reads parts that begin with a word, as many as there are.
func many[T any](r *reader, word string, part func() T) []T {
	var l []T
	for r.Next() == word {
		l = append(l, part())
	}
	return l
}

// declarations reads what may stand in any order.
func (r *reader) declarations() {
	words := map[string]func(){
		"clock": r.clocks, "var": r.variable, "chan": r.channels, "broadcast": r.channels, "urgent": r.channels,
	}
	for {
		read, isThere := words[r.Next()]
		if !isThere {
			return
		}
		read()
	}
}

func (r *reader) clocks() {
	r.Expect("clock")
	r.model.Clocks = append(r.model.Clocks, syntax.List(r.Reader, ",", r.Name)...)
	r.Expect(";")
}

func (r *reader) variable() {
	r.Expect("var")
	v := api.Var{Name: r.Name()}
	r.Expect("in")
	v.Low = r.Integer()
	r.Expect("..")
	v.High = r.Integer()
	r.Expect("=")
	v.Init = r.Integer()
	r.Expect(";")
	r.model.Vars = append(r.model.Vars, v)
}

func (r *reader) channels() {
	c := api.Chan{Broadcast: r.Take("broadcast"), Urgent: r.Take("urgent")}
	r.Expect("chan")
	for _, name := range syntax.List(r.Reader, ",", r.Name) {
		c.Name = name
		r.model.Chans = append(r.model.Chans, c)
	}
	r.Expect(";")
}

func (r *reader) process() api.Proc {
	r.Expect("process")
	p := api.Proc{Name: r.Name()}
	r.Expect("init")
	p.Init = r.Name()
	r.Expect("{")
	p.Locs = many(r, "loc", r.location)
	p.Edges = many(r, "edge", r.edge)
	r.Expect("}")
	return p
}

func (r *reader) location() api.Loc {
	r.Expect("loc")
	l := api.Loc{Name: r.Name()}
	switch {
	case r.Take("urgent"):
		l.Kind = api.LocUrgent
	case r.Take("committed"):
		l.Kind = api.LocCommitted
	}
	if r.Take("inv") {
		l.Inv = r.tests()
	}
	if r.Take("rate") {
		l.Rate = r.Integer()
	}
	r.Expect(";")
	return l
}

func (r *reader) edge() api.Edge {
	r.Expect("edge")
	x := api.Edge{From: r.Name()}
	r.Expect("->")
	x.To = r.Name()
	if r.Take("when") {
		x.Tests = r.tests()
	}
	if r.Take("if") {
		x.Cond = r.Exp()
	}
	if r.Take("sync") {
		x.Chan = r.Name()
		if x.Send = r.Take("!"); !x.Send {
			r.Expect("?")
		}
	}
	if r.Take("do") {
		x.Sets = syntax.List(r.Reader, ",", r.assignment)
	}
	if r.Take("reset") {
		x.Clears = syntax.List(r.Reader, ",", r.clear)
	}
	if r.Take("cost") {
		x.Cost = r.Integer()
	}
	if r.Take("kind") {
		x.Kind = int(r.Integer())
	}
	r.Expect(";")
	return x
}

func (r *reader) tests() []api.Test {
	return slices.Concat(syntax.List(r.Reader, "&&", r.test)...)
}

func (r *reader) test() []api.Test {
	clock := r.Name()
	l, isOne := comparisons()[r.Next()]
	if !isOne {
		r.Leave()
	}
	r.Advance()
	c := r.Integer()
	for k := range l {
		l[k].Clock, l[k].C = clock, c
	}
	return l
}

// comparisons returns the tests that each sign stands for, without clocks and constants.
func comparisons() map[string][]api.Test {
	return map[string][]api.Test{
		"<":  {{Strict: true}},
		"<=": {{}},
		">=": {{Lower: true}},
		">":  {{Lower: true, Strict: true}},
		"==": {{}, {Lower: true}},
	}
}

func (r *reader) assignment() api.Assign {
	s := api.Assign{Name: r.Name()}
	r.Expect("=")
	s.Val = r.Exp()
	return s
}

func (r *reader) clear() api.Clear {
	c := api.Clear{Clock: r.Name()}
	r.Expect("=")
	c.To = r.Integer()
	return c
}

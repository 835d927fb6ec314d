package network_test

import "foliot/api"

// Random models that are well-formed and small, by a writer's numbers.

func (w *writer) anyName() string {
	return one(w, "a", "b", "x", "y", "Zz", "x_1", "iff", "modeL", "clocks", longestName)
}

func (w *writer) anyInteger() int64 {
	return one(w, 0, 0, 1, -1, 10, 1<<31, -1<<31, w.Int64N(1<<31), -w.Int64N(1<<31))
}

func anyList[T any](w *writer, most int, make func() T) []T {
	var l []T
	for range w.IntN(most + 1) {
		l = append(l, make())
	}
	return l
}

func (w *writer) anyBool() bool { return w.IntN(2) == 0 }

func (w *writer) anyModel() api.Model {
	return api.Model{
		Name:   w.anyName(),
		Clocks: anyList(w, 4, w.anyName),
		Vars: anyList(w, 3, func() api.Var {
			return api.Var{Name: w.anyName(), Low: w.anyInteger(), High: w.anyInteger(), Init: w.anyInteger()}
		}),
		Chans: anyList(w, 4, func() api.Chan {
			return api.Chan{Name: w.anyName(), Broadcast: w.anyBool(), Urgent: w.anyBool()}
		}),
		Funcs: anyList(w, 2, func() api.Func {
			return api.Func{Name: w.anyName(), Params: anyList(w, 4, w.anyName), Body: anyList(w, 2, func() api.Stmt { return w.anyStatement(2) })}
		}),
		Procs: anyList(w, 2, func() api.Proc {
			return api.Proc{Name: w.anyName(), Init: w.anyName(), Locs: anyList(w, 3, w.anyLocation), Edges: anyList(w, 3, w.anyEdge)}
		}),
	}
}

func (w *writer) anyLocation() api.Loc {
	return api.Loc{Name: w.anyName(), Kind: w.IntN(3), Inv: w.anyTests(), Rate: one(w, 0, w.anyInteger())}
}

// anyTests returns tests, some of which can be written together.
func (w *writer) anyTests() []api.Test {
	var l []api.Test
	for range w.IntN(3) {
		x := api.Test{Clock: w.anyName(), Lower: w.anyBool(), Strict: w.anyBool(), C: w.anyInteger()}
		l = append(l, x)
		if w.IntN(2) == 0 {
			x.Lower, x.Strict = true, false
			l = append(l, x)
		}
	}
	return l
}

func (w *writer) anyEdge() api.Edge {
	x := api.Edge{
		From: w.anyName(), To: w.anyName(), Tests: w.anyTests(),
		Sets:   anyList(w, 2, func() api.Assign { return api.Assign{Name: w.anyName(), Val: w.anyExp(3)} }),
		Clears: anyList(w, 2, func() api.Clear { return api.Clear{Clock: w.anyName(), To: w.anyInteger()} }),
		Cost:   one(w, 0, w.anyInteger()), Kind: int(one(w, 0, 1, w.anyInteger())),
	}
	if w.anyBool() {
		x.Cond = w.anyExp(3)
	}
	if w.anyBool() {
		x.Chan, x.Send = w.anyName(), w.anyBool()
	}
	return x
}

// anyExp returns an expression that is at most so deep.
func (w *writer) anyExp(deep int) api.Exp {
	kind := 1 + w.IntN(19)
	if deep == 1 {
		kind = one(w, api.ExInt, api.ExName)
	}
	count := 2
	switch kind {
	case api.ExInt:
		return api.Exp{Kind: kind, Int: w.anyInteger()}
	case api.ExName:
		return api.Exp{Kind: kind, Name: w.anyName()}
	case api.ExCall:
		return api.Exp{Kind: kind, Name: w.anyName(), Args: anyList(w, 4, func() api.Exp { return w.anyExp(deep - 1) })}
	case api.ExNeg, api.ExNot:
		count = 1
	case api.ExIf:
		count = 3
	}
	x := api.Exp{Kind: kind}
	for range count {
		x.Args = append(x.Args, w.anyExp(deep-1))
	}
	return x
}

// anyStatement returns a statement that is at most so deep.
func (w *writer) anyStatement(deep int) api.Stmt {
	s := api.Stmt{Kind: one(w, api.StVar, api.StSet, api.StReturn), Val: w.anyExp(2)}
	if deep > 1 && w.anyBool() {
		s.Kind = one(w, api.StIf, api.StWhile)
		s.Body = anyList(w, 2, func() api.Stmt { return w.anyStatement(deep - 1) })
	}
	switch s.Kind {
	case api.StVar, api.StSet:
		s.Name = w.anyName()
	case api.StIf:
		s.Else = anyList(w, 2, func() api.Stmt { return w.anyStatement(deep - 1) })
	}
	return s
}

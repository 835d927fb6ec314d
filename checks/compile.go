package checks

import (
	"slices"

	"foliot/api"
)

// netOf returns the net of a model without errors.
func netOf(m api.Model) api.Net {
	s := newScope(m)
	return api.Net{
		Clocks: len(m.Clocks), Vars: slices.Clone(m.Vars), Chans: slices.Clone(m.Chans),
		Funcs: each(m.Funcs, copyFunc), Procs: each(m.Procs, s.netProc),
	}
}

func (s *scope) netProc(p api.Proc) api.NProc {
	s.locs = numbers(locNames(p), 0)
	return api.NProc{Init: s.locs[p.Init], Locs: each(p.Locs, s.netLoc), Edges: each(p.Edges, s.netEdge)}
}

func (s *scope) netLoc(l api.Loc) api.NLoc {
	return api.NLoc{Kind: l.Kind, Inv: each(l.Inv, s.con), Rate: l.Rate}
}

func (s *scope) con(t api.Test) api.Con {
	return api.Con{Clock: s.clocks[t.Clock], Lower: t.Lower, Strict: t.Strict, C: t.C}
}

func (s *scope) netEdge(x api.Edge) api.NEdge {
	channel := -1
	if x.Chan != "" {
		channel = s.chans[x.Chan]
	}
	return api.NEdge{
		From: s.locs[x.From], To: s.locs[x.To], Guard: each(x.Tests, s.con), Cond: copyExp(x.Cond),
		Chan: channel, Send: x.Send,
		Sets:   each(x.Sets, func(a api.Assign) api.NSet { return api.NSet{Var: s.vars[a.Name], Val: copyExp(a.Val)} }),
		Resets: each(x.Clears, func(c api.Clear) api.Reset { return api.Reset{Clock: s.clocks[c.Clock], To: c.To} }),
		Cost:   x.Cost, Kind: x.Kind,
	}
}

func copyFunc(f api.Func) api.Func {
	return api.Func{Name: f.Name, Params: slices.Clone(f.Params), Body: each(f.Body, copyStmt)}
}

func copyStmt(s api.Stmt) api.Stmt {
	return api.Stmt{
		Kind: s.Kind, Name: s.Name, Val: copyExp(s.Val), Body: each(s.Body, copyStmt), Else: each(s.Else, copyStmt),
	}
}

func copyExp(x api.Exp) api.Exp {
	return api.Exp{Kind: x.Kind, Name: x.Name, Int: x.Int, Args: each(x.Args, copyExp)}
}

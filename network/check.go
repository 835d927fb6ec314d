package network

import (
	"slices"

	"foliot/api"
	"foliot/code"
)

func all[T any](l []T, isOne func(x T) bool) bool {
	return !slices.ContainsFunc(l, func(x T) bool { return !isOne(x) })
}

func isWellFormed(m api.Model) bool {
	return code.Name(m.Name) && all(m.Clocks, code.Name) &&
		all(m.Vars, func(v api.Var) bool { return code.Name(v.Name) && fit(v.Low, v.High, v.Init) }) &&
		all(m.Chans, func(c api.Chan) bool { return code.Name(c.Name) }) &&
		code.CheckFuncs(m.Funcs) != api.ErrArg && all(m.Procs, procIsWellFormed)
}

func fit(l ...int64) bool {
	return all(l, func(n int64) bool { return n >= -api.MaxValue && n <= api.MaxValue })
}

func procIsWellFormed(p api.Proc) bool {
	return code.Name(p.Name) && code.Name(p.Init) && all(p.Locs, locIsWellFormed) && all(p.Edges, edgeIsWellFormed)
}

func locIsWellFormed(l api.Loc) bool {
	return code.Name(l.Name) && l.Kind >= api.LocPlain && l.Kind <= api.LocCommitted &&
		all(l.Inv, testIsWellFormed) && fit(l.Rate)
}

func testIsWellFormed(t api.Test) bool { return code.Name(t.Clock) && fit(t.C) }

func edgeIsWellFormed(x api.Edge) bool {
	return code.Name(x.From) && code.Name(x.To) && all(x.Tests, testIsWellFormed) &&
		(isNone(x.Cond) || expIsWellFormed(x.Cond)) && (code.Name(x.Chan) || x.Chan == "" && !x.Send) &&
		all(x.Sets, func(s api.Assign) bool { return code.Name(s.Name) && expIsWellFormed(s.Val) }) &&
		all(x.Clears, func(c api.Clear) bool { return code.Name(c.Clock) && fit(c.To) }) &&
		fit(x.Cost, int64(x.Kind))
}

// isNone tells whether an expression is the zero expression.
func isNone(x api.Exp) bool {
	return x.Kind == 0 && x.Name == "" && x.Int == 0 && len(x.Args) == 0
}

func expIsWellFormed(x api.Exp) bool { return code.CheckExp(x) != api.ErrArg }

// isSmall tells whether a model that is well-formed is small.
func isSmall(m api.Model) bool {
	return len(m.Clocks) <= api.MaxClocks && len(m.Vars) <= api.MaxVars && len(m.Chans) <= api.MaxChans &&
		len(m.Procs) <= api.MaxProcs && code.CheckFuncs(m.Funcs) == api.OK && all(m.Procs, procIsSmall)
}

func procIsSmall(p api.Proc) bool {
	return len(p.Locs) <= api.MaxLocs && len(p.Edges) <= api.MaxEdges &&
		all(p.Locs, func(l api.Loc) bool { return len(l.Inv) <= api.MaxCons }) && all(p.Edges, edgeIsSmall)
}

func edgeIsSmall(x api.Edge) bool {
	return len(x.Tests) <= api.MaxCons && len(x.Sets) <= api.MaxSets && len(x.Clears) <= api.MaxSets &&
		(isNone(x.Cond) || code.CheckExp(x.Cond) == api.OK) &&
		all(x.Sets, func(s api.Assign) bool { return code.CheckExp(s.Val) == api.OK })
}

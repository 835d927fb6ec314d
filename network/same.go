package network

import (
	"slices"

	"foliot/api"
)

func sameModel(a, b api.Model) bool {
	return a.Name == b.Name && slices.Equal(a.Clocks, b.Clocks) && slices.Equal(a.Vars, b.Vars) &&
		slices.Equal(a.Chans, b.Chans) && slices.EqualFunc(a.Funcs, b.Funcs, sameFunc) &&
		slices.EqualFunc(a.Procs, b.Procs, sameProc)
}

func sameFunc(a, b api.Func) bool {
	return a.Name == b.Name && slices.Equal(a.Params, b.Params) && sameTrees(a.Body, b.Body,
		func(s, t *api.Stmt) bool { return s.Kind == t.Kind && s.Name == t.Name && sameExp(s.Val, t.Val) },
		func(s *api.Stmt) [][]api.Stmt { return [][]api.Stmt{s.Body, s.Else} })
}

func sameExp(a, b api.Exp) bool {
	return sameTrees([]api.Exp{a}, []api.Exp{b},
		func(x, y *api.Exp) bool { return x.Kind == y.Kind && x.Name == y.Name && x.Int == y.Int },
		func(x *api.Exp) [][]api.Exp { return [][]api.Exp{x.Args} })
}

// sameTrees tells whether two lists, and the lists in them, are equal. It
// compares what stands at two places in memory once, as a list may contain itself.
func sameTrees[T any](a, b []T, same func(x, y *T) bool, within func(x *T) [][]T) bool {
	waiting, known := [][2][]T{{a, b}}, map[[2]*T]bool{}
	for len(waiting) > 0 {
		last := len(waiting) - 1
		a, b, waiting = waiting[last][0], waiting[last][1], waiting[:last]
		if len(a) != len(b) {
			return false
		}
		for k := range a {
			x, y := &a[k], &b[k]
			if known[[2]*T{x, y}] {
				continue
			}
			if !same(x, y) {
				return false
			}
			known[[2]*T{x, y}] = true
			others := within(y)
			for n, l := range within(x) {
				waiting = append(waiting, [2][]T{l, others[n]})
			}
		}
	}
	return true
}

func sameProc(a, b api.Proc) bool {
	return a.Name == b.Name && a.Init == b.Init &&
		slices.EqualFunc(a.Locs, b.Locs, sameLoc) && slices.EqualFunc(a.Edges, b.Edges, sameEdge)
}

func sameLoc(a, b api.Loc) bool {
	return a.Name == b.Name && a.Kind == b.Kind && a.Rate == b.Rate && slices.Equal(a.Inv, b.Inv)
}

func sameEdge(a, b api.Edge) bool {
	return a.From == b.From && a.To == b.To && a.Chan == b.Chan && a.Send == b.Send &&
		a.Cost == b.Cost && a.Kind == b.Kind &&
		slices.Equal(a.Tests, b.Tests) && slices.Equal(a.Clears, b.Clears) && sameExp(a.Cond, b.Cond) &&
		slices.EqualFunc(a.Sets, b.Sets, func(s, t api.Assign) bool { return s.Name == t.Name && sameExp(s.Val, t.Val) })
}

package checks

import (
	"strconv"

	"foliot/api"
)

// noName stands for what has a number that does not exist: it is no name, so a model with it has not the form of one.
const noName = "?"

// modelOf returns a model that keeps the rules just if the net is valid.
// Only Chan -1 becomes an empty name.
func modelOf(n api.Net) api.Model {
	m := api.Model{Name: "m", Vars: n.Vars, Chans: n.Chans, Funcs: n.Funcs}
	names := newNames(m, n.Clocks+len(n.Procs))
	m.Clocks, names = names[:n.Clocks], names[n.Clocks:]
	w := namer{clocks: m.Clocks, vars: varNames(m), chans: chanNames(m)}
	for k, p := range n.Procs {
		m.Procs = append(m.Procs, w.proc(names[k], p))
	}
	return m
}

// newNames returns names that the variables, channels and functions of a model do not have.
func newNames(m api.Model, count int) []string {
	known := numbers(append(varNames(m), chanNames(m)...), 0)
	for _, f := range m.Funcs {
		known[f.Name] = 0
	}
	names := []string{}
	for k := 0; len(names) < count; k++ {
		if name := numbered(k); !isKnown(known, name) {
			names = append(names, name)
		}
	}
	return names
}

func numbered(k int) string { return "n" + strconv.Itoa(k) }

// namer writes the parts of a net with names.
type namer struct{ clocks, vars, chans, locs []string }

// nameAt returns the name with a number.
func nameAt(names []string, k int) string {
	if k < 0 || k >= len(names) {
		return noName
	}
	return names[k]
}

func (w *namer) proc(name string, p api.NProc) api.Proc {
	w.locs = nil
	for k := range p.Locs {
		w.locs = append(w.locs, numbered(k))
	}
	made := api.Proc{Name: name, Init: nameAt(w.locs, p.Init), Edges: each(p.Edges, w.edge)}
	for k, l := range p.Locs {
		made.Locs = append(made.Locs, api.Loc{Name: w.locs[k], Kind: l.Kind, Inv: each(l.Inv, w.test), Rate: l.Rate})
	}
	return made
}

func (w *namer) clock(k int) string { return nameAt(w.clocks, k-1) }

func (w *namer) test(c api.Con) api.Test {
	return api.Test{Clock: w.clock(c.Clock), Lower: c.Lower, Strict: c.Strict, C: c.C}
}

func (w *namer) edge(x api.NEdge) api.Edge {
	channel := ""
	if x.Chan != -1 {
		channel = nameAt(w.chans, x.Chan)
	}
	return api.Edge{
		From: nameAt(w.locs, x.From), To: nameAt(w.locs, x.To), Tests: each(x.Guard, w.test), Cond: x.Cond,
		Chan: channel, Send: x.Send,
		Sets:   each(x.Sets, func(s api.NSet) api.Assign { return api.Assign{Name: nameAt(w.vars, s.Var), Val: s.Val} }),
		Clears: each(x.Resets, func(r api.Reset) api.Clear { return api.Clear{Clock: w.clock(r.Clock), To: r.To} }),
		Cost:   x.Cost, Kind: x.Kind,
	}
}

func greatest(n api.Net) []int64 {
	most := make([]int64, n.Clocks)
	for k := range most {
		most[k] = -1
	}
	raise := func(clock int, c int64) { most[clock-1] = max(most[clock-1], c) }
	raiseAll := func(l []api.Con) {
		for _, c := range l {
			raise(c.Clock, c.C)
		}
	}
	for _, p := range n.Procs {
		for _, l := range p.Locs {
			raiseAll(l.Inv)
		}
		for _, x := range p.Edges {
			raiseAll(x.Guard)
			for _, r := range x.Resets {
				raise(r.Clock, r.To)
			}
		}
	}
	return most
}

package discrete_test

import (
	"math/rand/v2"

	"foliot/api"
	"foliot/checks"
)

// maker makes valid nets and discrete states of them.
type maker struct {
	*rand.Rand
	exps []api.Exp // that a net with the variables v and w and the function f may have
	f    []api.Func
}

func newMaker(seed uint64) *maker {
	r := &maker{Rand: rand.New(rand.NewPCG(seed, 13)), f: funcsOf("func f(p) { return p / v; }")}
	for _, text := range []string{"v", "w", "v + 1", "w - 1", "w + 1", "w + 1", "w + v", "1 - v", "v == w", "v < w || w < 0", "f(w)", "f(1) > 0", "0", "1", "2", "-w", "!v"} {
		r.exps = append(r.exps, expOf(text))
	}
	return r
}

func one[T any](r *maker, l ...T) T { return l[r.IntN(len(l))] }

// net makes a net with so many processes at most.
func (r *maker) net(procs int) api.Net {
	n := api.Net{Clocks: 2, Funcs: r.f}
	n.Vars = []api.Var{{Name: "v", High: int64(1 + r.IntN(2))}, {Name: "w", Low: -2, High: int64(2 + 5*r.IntN(3)), Init: int64(r.IntN(5) - 2)}}
	n.Chans = []api.Chan{{Name: "a"}, {Name: "b", Broadcast: true}, {Name: "c", Urgent: r.IntN(2) == 0, Broadcast: r.IntN(2) == 0}}
	for range 1 + r.IntN(procs) {
		n.Procs = append(n.Procs, r.proc(n.Chans))
	}
	if e := checks.Valid(n); e != api.OK {
		panic(short(n) + " is not valid")
	}
	return n
}

func (r *maker) proc(chans []api.Chan) api.NProc {
	p := api.NProc{Locs: make([]api.NLoc, 1+r.IntN(3))}
	p.Init = r.IntN(len(p.Locs))
	for k := range p.Locs {
		p.Locs[k] = api.NLoc{Kind: max(0, r.IntN(12)-9), Rate: int64(r.IntN(1000))}
		for range r.IntN(3) {
			p.Locs[k].Inv = append(p.Locs[k].Inv, api.Con{Clock: 1 + r.IntN(2), Strict: r.IntN(2) == 0, C: int64(1 + r.IntN(9))})
		}
	}
	for range r.IntN(8) {
		p.Edges = append(p.Edges, r.edge(len(p.Locs), chans))
	}
	return p
}

func (r *maker) edge(locs int, chans []api.Chan) api.NEdge {
	x := api.NEdge{From: r.IntN(locs), To: r.IntN(locs), Chan: r.IntN(len(chans)+1) - 1, Cost: int64(r.IntN(1000)), Kind: r.IntN(2)}
	x.Send = x.Chan >= 0 && r.IntN(2) == 0
	if r.IntN(4) == 0 {
		x.Cond = one(r, r.exps...)
	}
	for range max(0, r.IntN(5)-2) {
		x.Sets = append(x.Sets, api.NSet{Var: r.IntN(2), Val: one(r, r.exps...)})
	}
	for range r.IntN(3) {
		x.Resets = append(x.Resets, api.Reset{Clock: 1 + r.IntN(2), To: int64(r.IntN(9))})
	}
	if x.Chan == -1 || !chans[x.Chan].Urgent && (x.Send || !chans[x.Chan].Broadcast) {
		for range r.IntN(3) {
			x.Guard = append(x.Guard, api.Con{Clock: 1 + r.IntN(2), Lower: r.IntN(2) == 0, Strict: r.IntN(2) == 0, C: int64(r.IntN(9))})
		}
	}
	return x
}

func (r *maker) state(n api.Net) api.Discrete {
	var d api.Discrete
	for _, p := range n.Procs {
		d.Locs = append(d.Locs, r.IntN(len(p.Locs)))
	}
	for _, v := range n.Vars {
		d.Vars = append(d.Vars, v.Low+r.Int64N(v.High-v.Low+1))
	}
	return d
}

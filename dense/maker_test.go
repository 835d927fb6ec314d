package dense_test

import (
	"math/rand/v2"
	"testing"

	"foliot/api"
	"foliot/checks"
	"foliot/dense"
)

// maker makes valid nets, states of them, waits and steps.
type maker struct{ *rand.Rand }

func newMaker(seed uint64) maker { return maker{rand.New(rand.NewPCG(seed, 14))} }

func (r maker) con(clocks int) api.Con {
	c := api.Con{Clock: 1 + r.IntN(clocks), Lower: r.IntN(2) == 0, Strict: r.IntN(3) == 0, C: int64(r.IntN(6))}
	if r.IntN(60) == 0 {
		c.C = int64(api.MaxConst - r.IntN(2))
	}
	return c
}

func (r maker) net() api.Net {
	n := api.Net{Clocks: 1 + r.IntN(3), Chans: []api.Chan{{Name: "a"}, {Name: "b", Broadcast: true}, {Name: "u", Urgent: true, Broadcast: r.IntN(2) == 0}}}
	n.Vars = []api.Var{{Name: "v", High: 2}}
	for range 1 + r.IntN(3) {
		p := api.NProc{Locs: make([]api.NLoc, 1+r.IntN(3))}
		for k := range p.Locs {
			p.Locs[k].Kind = max(0, r.IntN(16)-13)
			for range r.IntN(3) {
				c := r.con(n.Clocks)
				c.Lower, c.C = false, c.C+1
				p.Locs[k].Inv = append(p.Locs[k].Inv, c)
			}
		}
		for range r.IntN(6) {
			p.Edges = append(p.Edges, r.edge(n, len(p.Locs)))
		}
		n.Procs = append(n.Procs, p)
	}
	for k := range n.Procs {
		for l := range n.Procs[k].Locs {
			for i := range n.Procs[k].Locs[l].Inv {
				n.Procs[k].Locs[l].Inv[i].C = min(n.Procs[k].Locs[l].Inv[i].C, api.MaxConst)
			}
		}
	}
	if e := checks.Valid(n); e != api.OK {
		panic(short(n) + " is not valid")
	}
	return n
}

func (r maker) edge(n api.Net, locs int) api.NEdge {
	x := api.NEdge{From: r.IntN(locs), To: r.IntN(locs), Chan: max(-1, r.IntN(6)-3)}
	x.Send = x.Chan >= 0 && r.IntN(2) == 0
	if r.IntN(3) == 0 {
		x.Sets = []api.NSet{{Val: api.Exp{Kind: api.ExInt, Int: int64(r.IntN(4))}}}
	}
	for range r.IntN(3) {
		x.Resets = append(x.Resets, api.Reset{Clock: 1 + r.IntN(n.Clocks), To: int64(r.IntN(5))})
	}
	if x.Chan == -1 || x.Chan == 0 || x.Chan == 1 && x.Send {
		for range r.IntN(4) {
			x.Guard = append(x.Guard, r.con(n.Clocks))
		}
	}
	return x
}

// number makes a rational number, mostly a small one.
func (r maker) number() api.Ratio {
	switch r.IntN(20) {
	case 0:
		return api.Ratio{Num: api.MaxRatio - int64(r.IntN(3)), Den: 1}
	case 1:
		return api.Ratio{Num: 1, Den: api.MaxRatio - int64(r.IntN(3))}
	}
	num, den := int64(r.IntN(13)), int64(1)
	if r.IntN(2) == 0 {
		den = 3
	}
	if num%den == 0 {
		return api.Ratio{Num: num / den, Den: 1}
	}
	return api.Ratio{Num: num, Den: den}
}

// state makes a state of a net.
func (r maker) state(n api.Net) api.Dense {
	for {
		s := api.Dense{D: api.Discrete{Vars: []int64{int64(r.IntN(3))}}}
		for _, p := range n.Procs {
			s.D.Locs = append(s.D.Locs, r.IntN(len(p.Locs)))
		}
		for range n.Clocks {
			s.Clocks = append(s.Clocks, r.number())
		}
		if dense.Check(n, s) == api.OK {
			return s
		}
	}
}

// anyState makes something that may be no state.
func (r maker) anyState(n api.Net) api.Dense {
	s := r.state(n)
	switch r.IntN(8) {
	case 0:
		s.Clocks[r.IntN(n.Clocks)] = wrong()[r.IntN(len(wrong()))]
	case 1:
		s.Clocks[r.IntN(n.Clocks)].Num *= -1
	case 2:
		s.D.Locs[r.IntN(len(n.Procs))] = r.IntN(5) - 1
	case 3:
		s.Clocks = s.Clocks[1:]
	default:
		for k := range s.Clocks {
			s.Clocks[k] = r.number()
		}
	}
	return s
}

func (r maker) steps() []api.Step {
	var l []api.Step
	for range r.IntN(6) {
		x := api.Step{Wait: r.number(), Move: r.IntN(4) - 1}
		if r.IntN(3) > 0 {
			x.Wait = api.Ratio{Num: int64(r.IntN(2)), Den: 1}
		}
		if r.IntN(40) == 0 {
			x.Wait.Den = 0
		}
		l = append(l, x)
	}
	return l
}

// The random nets have what the other tests ask of them.
func TestMaker(t *testing.T) {
	r := newMaker(1)
	most, moves, possible := 0, 0, 0
	for range 500 {
		n := r.net()
		s := r.state(n)
		if _, attained, ever, e := dense.Most(n, s); e == api.OK && !ever && !attained {
			most++
		}
		moves += len(movesOf(t, n, s))
		l, _ := dense.Enabled(n, s)
		possible += len(l)
	}
	if most < 30 || possible < 100 || moves < possible+100 {
		t.Errorf("too few: %d bounds, %d moves, of which %d are possible", most, moves, possible)
	}
}

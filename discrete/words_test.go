package discrete_test

import (
	"slices"
	"testing"

	"foliot/api"
	"foliot/discrete"
	"foliot/eval"
)

func valueByWords(n api.Net, x api.Exp, values []int64) (int64, bool) {
	var names []string
	for _, v := range n.Vars {
		names = append(names, v.Name)
	}
	value, e := eval.Value(x, names, values, n.Funcs)
	return value, e == api.OK
}

func isOpenByWords(n api.Net, d api.Discrete, p, k int) bool {
	x := n.Procs[p].Edges[k]
	if x.From != d.Locs[p] {
		return false
	}
	if plain(x.Cond) == plain(api.Exp{}) {
		return true
	}
	value, ok := valueByWords(n, x.Cond, d.Vars)
	return ok && value != 0
}

// setsByWords returns the sets of open edges that may act together, by the chapter's three kinds: of all sets with at most one edge of each process.
func setsByWords(n api.Net, d api.Discrete) [][][2]int {
	var l [][][2]int
	var pick func(p int, set [][2]int)
	pick = func(p int, set [][2]int) {
		if p == len(n.Procs) {
			if acts := actsByWords(n, d, set); acts != nil {
				l = append(l, acts)
			}
			return
		}
		pick(p+1, set)
		for k := range n.Procs[p].Edges {
			if isOpenByWords(n, d, p, k) {
				pick(p+1, append(set[:len(set):len(set)], [2]int{p, k}))
			}
		}
	}
	pick(0, nil)
	slices.SortFunc(l, func(a, b [][2]int) int {
		return slices.CompareFunc(a, b, func(x, y [2]int) int { return slices.Compare(x[:], y[:]) })
	})
	return l
}

// actsByWords returns a set with the sender first, if its edges may act together.
func actsByWords(n api.Net, d api.Discrete, set [][2]int) [][2]int {
	edge := func(a [2]int) api.NEdge { return n.Procs[a[0]].Edges[a[1]] }
	if len(set) == 1 && edge(set[0]).Chan == -1 {
		return set
	}
	var senders, receivers [][2]int
	for _, a := range set {
		if edge(a).Send {
			senders = append(senders, a)
		} else {
			receivers = append(receivers, a)
		}
	}
	if len(senders) != 1 {
		return nil
	}
	channel := edge(senders[0]).Chan
	if slices.ContainsFunc(receivers, func(a [2]int) bool { return edge(a).Chan != channel }) {
		return nil
	}
	if !n.Chans[channel].Broadcast {
		if len(receivers) != 1 {
			return nil
		}
		return append(senders, receivers...)
	}
	for p := range n.Procs {
		if acts := slices.ContainsFunc(set, func(a [2]int) bool { return a[0] == p }); !acts && receivesByWords(n, d, p, channel) {
			return nil
		}
	}
	return append(senders, receivers...)
}

func receivesByWords(n api.Net, d api.Discrete, p, channel int) bool {
	for k, x := range n.Procs[p].Edges {
		if x.Chan == channel && !x.Send && isOpenByWords(n, d, p, k) {
			return true
		}
	}
	return false
}

func movesByWords(n api.Net, d api.Discrete) []api.Move {
	var l []api.Move
	committed := func(p int) bool { return n.Procs[p].Locs[d.Locs[p]].Kind == api.LocCommitted }
sets:
	for _, acts := range setsByWords(n, d) {
		m := api.Move{Acts: acts, Next: api.Discrete{Locs: slices.Clone(d.Locs), Vars: slices.Clone(d.Vars)}}
		counts := false
		for _, a := range acts {
			counts = counts || committed(a[0])
			x := n.Procs[a[0]].Edges[a[1]]
			m.Next.Locs[a[0]] = x.To
			for _, s := range x.Sets {
				value, ok := valueByWords(n, s.Val, m.Next.Vars)
				if !ok || value < n.Vars[s.Var].Low || value > n.Vars[s.Var].High {
					continue sets
				}
				m.Next.Vars[s.Var] = value
			}
			m.Guards, m.Resets = append(m.Guards, x.Guard...), append(m.Resets, x.Resets...)
			m.Cost += x.Cost
			if x.Kind == 1 {
				m.Kind = 1
			}
		}
		for p := range n.Procs {
			if committed(p) && !counts {
				continue sets
			}
		}
		l = append(l, m)
	}
	return l
}

func isStillByWords(n api.Net, d api.Discrete) bool {
	for p, loc := range d.Locs {
		if n.Procs[p].Locs[loc].Kind != api.LocPlain {
			return true
		}
		for k, x := range n.Procs[p].Edges {
			if !isOpenByWords(n, d, p, k) || !x.Send || !n.Chans[x.Chan].Urgent {
				continue
			}
			if n.Chans[x.Chan].Broadcast {
				return true
			}
			for other := range n.Procs {
				if other != p && receivesByWords(n, d, other, x.Chan) {
					return true
				}
			}
		}
	}
	return false
}

// P13.2, P13.3: random states of random nets.
func TestStatesByTheWords(t *testing.T) {
	r := newMaker(1)
	seen := map[string]int{}
	for range 1500 {
		n := r.net(4)
		for range 4 {
			d := r.state(n)
			want := movesByWords(n, d)
			checkMoves(t, plain(n), n, d, want)
			still, e := discrete.Still(n, d)
			if e != api.OK || still != isStillByWords(n, d) {
				t.Errorf("%s: Still in %+v is %v, %d", plain(n), d, still, e)
			}
			if e := discrete.Check(n, d); e != api.OK {
				t.Errorf("%s: Check of %+v is %d", plain(n), d, e)
			}
			checkInvariantAndRate(t, n, d)
			for _, m := range want {
				seen[plain(len(m.Acts))]++
			}
			seen[plain(still)]++
			if t.Failed() {
				return
			}
		}
	}
	for _, what := range []string{"1", "2", "3", "4", "true", "false"} {
		if seen[what] < 20 {
			t.Errorf("too few of some: %v", seen)
		}
	}
}

func checkInvariantAndRate(t *testing.T, n api.Net, d api.Discrete) {
	t.Helper()
	inv, rate := []api.Con{}, int64(0)
	for p, loc := range d.Locs {
		inv = append(inv, n.Procs[p].Locs[loc].Inv...)
		rate += n.Procs[p].Locs[loc].Rate
	}
	if l, e := discrete.Invariant(n, d); e != api.OK || plain(l) != plain(inv) {
		t.Errorf("%s: Invariant in %+v is %v, %d", plain(n), d, l, e)
	}
	if got, e := discrete.Rate(n, d); e != api.OK || got != rate {
		t.Errorf("%s: Rate in %+v is %v, %d", plain(n), d, got, e)
	}
}

// reachedByWords returns the states that are reached, and the moves of each.
func reachedByWords(n api.Net) ([]api.Discrete, [][]api.Move) {
	d := api.Discrete{}
	for _, p := range n.Procs {
		d.Locs = append(d.Locs, p.Init)
	}
	for _, v := range n.Vars {
		d.Vars = append(d.Vars, v.Init)
	}
	states, moves := []api.Discrete{d}, [][]api.Move{}
	for k := 0; k < len(states); k++ {
		l := movesByWords(n, states[k])
		for _, m := range l {
			if numberByWords(states, m.Next) == -1 {
				states = append(states, m.Next)
			}
		}
		moves = append(moves, l)
	}
	return states, moves
}

func numberByWords(states []api.Discrete, d api.Discrete) int {
	return slices.IndexFunc(states, func(x api.Discrete) bool { return slices.Equal(x.Locs, d.Locs) && slices.Equal(x.Vars, d.Vars) })
}

// P13.1, P13.4, P13.5: the states that random nets reach, and their flat automata.
func TestFlatByTheWords(t *testing.T) {
	r := newMaker(2)
	seen := map[string]int{}
	for range 1500 {
		n := r.net(3)
		states, moves := reachedByWords(n)
		if d := first(t, n); plain(d) != plain(states[0]) {
			t.Errorf("%s: Initial is %+v", plain(n), d)
		}
		if l, e := discrete.Reach(n, len(states)); e != api.OK || plain(l) != plain(states) {
			t.Errorf("%s: Reach is %+v, %d; want %+v", plain(n), l, e, states)
		}
		if l, e := discrete.Reach(n, len(states)-1); len(states) > 1 && e != api.ErrLong || len(l) > 0 {
			t.Errorf("%s: Reach of fewer states is %+v, %d", plain(n), l, e)
		}
		want := flatByWords(n, states, moves)
		f, l, e := discrete.Flat(n)
		if len(states) > 64 || len(want.Edges) > 200 {
			seen["large"]++
			if e != api.ErrLong || plain(f) != plain(api.Flat{}) || len(l) > 0 {
				t.Errorf("%s: Flat is %s with %s, %d", plain(n), short(f), short(l), e)
			}
			continue
		}
		if len(states) > 3 {
			seen["small"]++
		}
		if e != api.OK || plain(f) != plain(want) || plain(l) != plain(states) {
			t.Fatalf("%s: Flat is %s with %+v, %d; want %s with %+v", plain(n), plain(f), l, e, plain(want), states)
		}
	}
	if seen["large"] < 10 || seen["small"] < 50 {
		t.Errorf("too few of some: %v", seen)
	}
}

func flatByWords(n api.Net, states []api.Discrete, moves [][]api.Move) api.Flat {
	f := api.Flat{Clocks: n.Clocks}
	for k, d := range states {
		loc := api.FLoc{Urgent: isStillByWords(n, d)}
		for p, at := range d.Locs {
			loc.Inv = append(loc.Inv, n.Procs[p].Locs[at].Inv...)
			loc.Rate += n.Procs[p].Locs[at].Rate
		}
		f.Locs = append(f.Locs, loc)
		for _, m := range moves[k] {
			x := api.FEdge{From: k, To: numberByWords(states, m.Next), Guard: m.Guards, Resets: m.Resets, Kind: m.Kind, Cost: m.Cost}
			if channel := n.Procs[m.Acts[0][0]].Edges[m.Acts[0][1]].Chan; channel >= 0 {
				x.Act = channel + 1
			}
			f.Edges = append(f.Edges, x)
		}
	}
	return f
}

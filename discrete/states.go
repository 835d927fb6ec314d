package discrete

import (
	"slices"

	"foliot/api"
)

func initial(n api.Net) api.Discrete {
	var d api.Discrete
	for _, p := range n.Procs {
		d.Locs = append(d.Locs, p.Init)
	}
	for _, v := range n.Vars {
		d.Vars = append(d.Vars, v.Init)
	}
	return d
}

func isState(n api.Net, d api.Discrete) bool {
	if len(d.Locs) != len(n.Procs) || len(d.Vars) != len(n.Vars) {
		return false
	}
	for k, loc := range d.Locs {
		if loc < 0 || loc >= len(n.Procs[k].Locs) {
			return false
		}
	}
	for k, value := range d.Vars {
		if !isInRange(n.Vars[k], value) {
			return false
		}
	}
	return true
}

func isInRange(v api.Var, value int64) bool { return value >= v.Low && value <= v.High }

func copied(d api.Discrete) api.Discrete {
	return api.Discrete{Locs: slices.Clone(d.Locs), Vars: slices.Clone(d.Vars)}
}

// locations returns the location of each process.
func locations(n api.Net, d api.Discrete) []api.NLoc {
	l := make([]api.NLoc, len(d.Locs))
	for k, loc := range d.Locs {
		l[k] = n.Procs[k].Locs[loc]
	}
	return l
}

func invariant(n api.Net, d api.Discrete) []api.Con {
	var l []api.Con
	for _, loc := range locations(n, d) {
		l = append(l, loc.Inv...)
	}
	return l
}

func rate(n api.Net, d api.Discrete) int64 {
	sum := int64(0)
	for _, loc := range locations(n, d) {
		sum += loc.Rate
	}
	return sum
}

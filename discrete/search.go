package discrete

import (
	"strconv"

	"foliot/api"
)

// mostReached is how many states Reach may be asked for.
const mostReached = 10000

// finder numbers discrete states in the order of their discovery.
type finder struct {
	states  []api.Discrete
	numbers map[string]int
}

func newFinder() *finder { return &finder{numbers: map[string]int{}} }

func (f *finder) number(d api.Discrete) int {
	key := textOf(d)
	k, isKnown := f.numbers[key]
	if !isKnown {
		k = len(f.states)
		f.numbers[key] = k
		f.states = append(f.states, d)
	}
	return k
}

func textOf(d api.Discrete) string {
	var b []byte
	for _, loc := range d.Locs {
		b = append(strconv.AppendInt(b, int64(loc), 10), ' ')
	}
	for _, value := range d.Vars {
		b = append(strconv.AppendInt(b, value, 10), ' ')
	}
	return string(b)
}

// search returns the states that are reached, if they are at most so many, and hands on each move with the numbers of the states before and behind it.
func search(n api.Net, most int, met func(move api.Move, from, to int)) ([]api.Discrete, api.Errno) {
	f := newFinder()
	f.number(initial(n))
	for from := 0; from < len(f.states); from++ {
		moves, e := newSituation(n, f.states[from]).moves()
		if e != api.OK {
			return nil, e
		}
		for _, move := range moves {
			met(move, from, f.number(move.Next))
			if len(f.states) > most {
				return nil, api.ErrLong
			}
		}
	}
	return f.states, api.OK
}

func flat(n api.Net) (api.Flat, []api.Discrete, api.Errno) {
	made := api.Flat{Clocks: n.Clocks}
	states, e := search(n, api.MaxFlat, func(move api.Move, from, to int) {
		made.Edges = append(made.Edges, flatEdge(n, move, from, to))
	})
	if e != api.OK {
		return api.Flat{}, nil, e
	}
	if len(made.Edges) > api.MaxFlatEdges {
		return api.Flat{}, nil, api.ErrLong
	}
	for _, d := range states {
		made.Locs = append(made.Locs, api.FLoc{Inv: invariant(n, d), Urgent: newSituation(n, d).isStill(), Rate: rate(n, d)})
	}
	return made, states, api.OK
}

func flatEdge(n api.Net, move api.Move, from, to int) api.FEdge {
	first := move.Acts[0]
	return api.FEdge{
		From: from, To: to, Guard: move.Guards, Resets: move.Resets,
		Act: n.Procs[first[0]].Edges[first[1]].Chan + 1, Kind: move.Kind, Cost: move.Cost,
	}
}

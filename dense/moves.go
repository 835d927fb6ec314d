package dense

import (
	"iter"
	"slices"

	"foliot/api"
	"foliot/discrete"
)

func copied(s api.Dense) api.Dense {
	d := api.Discrete{Locs: slices.Clone(s.D.Locs), Vars: slices.Clone(s.D.Vars)}
	return api.Dense{D: d, Clocks: slices.Clone(s.Clocks)}
}

// possible yields the indices of the moves that are possible in a state.
func possible(n api.Net, s api.Dense, moves []api.Move) iter.Seq[int] {
	return func(yield func(move int) bool) {
		for k, move := range moves {
			if _, isPossible := behind(n, s, move); isPossible && !yield(k) {
				return
			}
		}
	}
}

// behind returns the state behind a move, and whether the move is possible.
func behind(n api.Net, s api.Dense, move api.Move) (api.Dense, bool) {
	next := api.Dense{D: move.Next, Clocks: slices.Clone(s.Clocks)}
	for _, reset := range move.Resets {
		next.Clocks[reset.Clock-1] = whole(reset.To)
	}
	return next, holdAll(move.Guards, s.Clocks) && isInvariant(n, next)
}

// act makes a move in a state of a valid net.
func act(n api.Net, s api.Dense, move int) (api.Dense, api.Errno) {
	moves, e := discrete.Moves(n, s.D)
	if e != api.OK {
		return api.Dense{}, e
	}
	if move < 0 || move >= len(moves) {
		return api.Dense{}, api.ErrNone
	}
	next, isPossible := behind(n, s, moves[move])
	if !isPossible {
		return api.Dense{}, api.ErrDown
	}
	return next, api.OK
}

// step waits and moves in a state of a valid net.
func step(n api.Net, s api.Dense, x api.Step) (api.Dense, api.Errno) {
	next, e := wait(n, s, x.Wait)
	if e != api.OK || x.Move == -1 {
		return next, e
	}
	return act(n, next, x.Move)
}

func run(n api.Net, s api.Dense, l []api.Step) (api.Dense, int, api.Errno) {
	next := copied(s)
	for k, x := range l {
		var e api.Errno
		if next, e = step(n, next, x); e != api.OK {
			return api.Dense{}, k, e
		}
	}
	return next, len(l), api.OK
}

package discrete

import (
	"slices"

	"foliot/api"
)

func (s *situation) moves() ([]api.Move, api.Errno) {
	var sets [][]act
	for acts := range s.sets {
		if len(sets) == api.MaxMoves {
			return nil, api.ErrLong
		}
		sets = append(sets, acts)
	}
	var l []api.Move
	for _, acts := range sets {
		if move, isOne := s.move(acts); isOne {
			l = append(l, move)
		}
	}
	return l, api.OK
}

// move returns the move of a set of open edges, and whether it is one.
func (s *situation) move(acts []act) (api.Move, bool) {
	if s.isCommitted() && !slices.ContainsFunc(acts, func(a act) bool { return s.kind(a[0]) == api.LocCommitted }) {
		return api.Move{}, false
	}
	move := api.Move{Acts: acts, Next: copied(s.d)}
	for _, a := range acts {
		x := s.edge(a)
		if !s.update(move.Next.Vars, x.Sets) {
			return api.Move{}, false
		}
		move.Next.Locs[a[0]] = x.To
		move.Guards = append(move.Guards, x.Guard...)
		move.Resets = append(move.Resets, x.Resets...)
		move.Cost += x.Cost
		move.Kind = max(move.Kind, x.Kind)
	}
	return move, true
}

// kind returns the kind of the location of a process.
func (s *situation) kind(p int) int { return s.n.Procs[p].Locs[s.d.Locs[p]].Kind }

func (s *situation) isCommitted() bool {
	return slices.ContainsFunc(locations(s.n, s.d), func(l api.NLoc) bool { return l.Kind == api.LocCommitted })
}

// update changes the values, and tells whether they can be changed so.
func (s *situation) update(values []int64, sets []api.NSet) bool {
	for _, set := range sets {
		value, e := s.value(set.Val, values)
		if e != api.OK || !isInRange(s.n.Vars[set.Var], value) {
			return false
		}
		values[set.Var] = value
	}
	return true
}

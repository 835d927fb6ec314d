package discrete

import (
	"iter"
	"slices"

	"foliot/api"
	"foliot/eval"
)

// act is a process and its edge.
type act = [2]int

// situation is a discrete state of a valid net, with what is open in it.
type situation struct {
	n     api.Net
	d     api.Discrete
	value func(x api.Exp, values []int64) (int64, api.Errno)
	open  []act // in order
}

func newSituation(n api.Net, d api.Discrete) *situation {
	s := &situation{n: n, d: d, value: evaluator(n)}
	for p, proc := range n.Procs {
		for k, x := range proc.Edges {
			if x.From == d.Locs[p] && s.holds(x.Cond) {
				s.open = append(s.open, act{p, k})
			}
		}
	}
	return s
}

// evaluator returns the function that evaluates expressions for values of the variables.
func evaluator(n api.Net) func(x api.Exp, values []int64) (int64, api.Errno) {
	var names []string
	for _, v := range n.Vars {
		names = append(names, v.Name)
	}
	return func(x api.Exp, values []int64) (int64, api.Errno) {
		return eval.Value(x, names, values, n.Funcs)
	}
}

func (s *situation) holds(condition api.Exp) bool {
	if condition.Kind == 0 {
		return true
	}
	value, e := s.value(condition, s.d.Vars)
	return e == api.OK && value != 0
}

func (s *situation) edge(a act) api.NEdge { return s.n.Procs[a[0]].Edges[a[1]] }

// isFirst tells whether an edge is the first one of the sets in which it is: all but receivers are.
func isFirst(x api.NEdge) bool { return x.Chan == -1 || x.Send }

// sets yields the sets of open edges that may act together, in order.
func (s *situation) sets(yield func(acts []act) bool) {
	for _, a := range s.open {
		if !isFirst(s.edge(a)) {
			continue
		}
		for others := range choices(s.partners(a)) {
			if !yield(append([]act{a}, others...)) {
				return
			}
		}
	}
}

// partners returns lists of receivers, of each of which one acts together with an edge.
func (s *situation) partners(a act) [][]act {
	channel := s.edge(a).Chan
	if channel == -1 {
		return nil
	}
	receivers := s.receivers(a[0], channel)
	if s.n.Chans[channel].Broadcast {
		return receivers
	}
	return [][]act{slices.Concat(receivers...)}
}

// receivers returns the open edges that receive on a channel, a list for each process that has some; but none for the sender.
func (s *situation) receivers(sender, channel int) [][]act {
	var l [][]act
	last := -1
	for _, a := range s.open {
		if x := s.edge(a); a[0] == sender || x.Send || x.Chan != channel {
			continue
		}
		if a[0] != last {
			l = append(l, nil)
			last = a[0]
		}
		l[len(l)-1] = append(l[len(l)-1], a)
	}
	return l
}

// choices yields all choices of one of each list, in order.
func choices(lists [][]act) iter.Seq[[]act] {
	return func(yield func(chosen []act) bool) { choose(nil, lists, yield) }
}

// choose yields what is chosen with all choices from the lists that are left, and tells whether there may be more.
func choose(chosen []act, left [][]act, yield func(chosen []act) bool) bool {
	if len(left) == 0 {
		return yield(chosen)
	}
	for _, a := range left[0] {
		if !choose(append(chosen, a), left[1:], yield) {
			return false
		}
	}
	return true
}

func (s *situation) isStill() bool {
	for _, loc := range locations(s.n, s.d) {
		if loc.Kind != api.LocPlain {
			return true
		}
	}
	return slices.ContainsFunc(s.open, s.isPressing)
}

// isPressing tells whether an open edge can send on an urgent channel.
func (s *situation) isPressing(a act) bool {
	x := s.edge(a)
	return x.Send && s.n.Chans[x.Chan].Urgent && !slices.ContainsFunc(s.partners(a), isNone)
}

func isNone(l []act) bool { return len(l) == 0 }

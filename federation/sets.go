package federation

import (
	"iter"

	"foliot/api"
	"foliot/limit"
	"foliot/minimal"
	"foliot/zone"
)

// minus returns what is left of a if each zone of b is cut out; zones from
// which nothing is cut are those of a still.
func minus(a, b []api.Zone) []api.Zone {
	for _, z := range b {
		a = collect(without(a, z))
	}
	return a
}

// without yields what is left of each zone of a list if b is cut out of it.
func without(l []api.Zone, b api.Zone) iter.Seq[api.Zone] {
	return func(yield func(z api.Zone) bool) {
		borders := must(minimal.Reduce(b))
		for _, x := range l {
			for left := range cut(x, b, borders) {
				if !yield(left) {
					return
				}
			}
		}
	}
}

// cut yields the zones of cutting b, of which these are the reduced constraints, out of x.
func cut(x, b api.Zone, borders []api.Constraint) iter.Seq[api.Zone] {
	return func(yield func(z api.Zone) bool) {
		if isEmpty(zone.Meet(x, b)) {
			yield(x)
			return
		}
		rest := x
		for _, border := range borders {
			beyond, e := zone.And(rest, []api.Constraint{opposite(border)})
			if !isEmpty(beyond, e) && !yield(beyond) {
				return
			}
			rest = must(zone.And(rest, []api.Constraint{border}))
		}
	}
}

// opposite returns the constraint that the valuations meet that do not meet c.
func opposite(c api.Constraint) api.Constraint {
	return api.Constraint{I: c.J, J: c.I, L: must(limit.Not(c.L))}
}

// isEmpty tells whether there is no zone as its set is empty, and leaves with any other error.
func isEmpty(z api.Zone, e api.Errno) bool {
	if e == api.ErrNone {
		return true
	}
	must(z, e)
	return false
}

// meet returns the intersections of the zones of a and of b that are not empty.
func meet(a, b []api.Zone) []api.Zone {
	return collect(func(yield func(z api.Zone) bool) {
		for _, x := range a {
			for _, y := range b {
				both, e := zone.Meet(x, y)
				if !isEmpty(both, e) && !yield(both) {
					return
				}
			}
		}
	})
}

// within yields the zones of the valuations from which good is reached without touching bad.
func within(good, bad []api.Zone) iter.Seq[api.Zone] {
	return func(yield func(z api.Zone) bool) {
		for _, g := range good {
			for _, z := range reaching(g, bad) {
				if !yield(z) {
					return
				}
			}
		}
	}
}

// reaching returns the valuations from which the zone g is reached without touching bad.
func reaching(g api.Zone, bad []api.Zone) []api.Zone {
	before := one(must(zone.Down(g)))
	l := before
	for _, b := range bad {
		l = meet(l, avoiding(g, before, b))
	}
	return l
}

// avoiding returns the valuations from which the zone g, before which there is
// before, is reached without touching b: b never comes, or it comes behind.
func avoiding(g api.Zone, before []api.Zone, b api.Zone) []api.Zone {
	ahead := one(must(zone.Down(b)))
	never := minus(before, ahead)
	behind := minus(meet(one(g), ahead), one(b))
	return append(never, collect(each(behind, zone.Down))...)
}

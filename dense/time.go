package dense

import (
	"foliot/api"
	"foliot/discrete"
	"foliot/ratio"
)

// comparison says when the constraints of a form hold: by the order of a clock and the constant, as ratio.Cmp tells it.
type comparison struct {
	isLower, isStrict bool
	holds             func(order int) bool
}

func comparisons() [4]comparison {
	return [...]comparison{
		{false, false, func(order int) bool { return order <= 0 }},
		{false, true, func(order int) bool { return order < 0 }},
		{true, false, func(order int) bool { return order >= 0 }},
		{true, true, func(order int) bool { return order > 0 }},
	}
}

// holdAll tells whether constraints hold for the clocks of a state.
func holdAll(l []api.Con, clocks []api.Ratio) bool {
	forms := comparisons()
	for _, c := range l {
		order, _ := ratio.Cmp(clocks[c.Clock-1], whole(c.C))
		for _, f := range forms {
			if f.isLower == c.Lower && f.isStrict == c.Strict && !f.holds(order) {
				return false
			}
		}
	}
	return true
}

// whole returns the ratio of a constant of a net, all of which fit.
func whole(c int64) api.Ratio {
	r, _ := ratio.Of(c)
	return r
}

func nothing() api.Ratio { return whole(0) }

func isNoTime(r api.Ratio) bool { return !ratio.Valid(r) || r.Num < 0 }

func invariant(n api.Net, d api.Discrete) []api.Con {
	l, _ := discrete.Invariant(n, d)
	return l
}

func isInvariant(n api.Net, s api.Dense) bool { return holdAll(invariant(n, s.D), s.Clocks) }

func isStill(n api.Net, d api.Discrete) bool {
	still, _ := discrete.Still(n, d)
	return still
}

// wait waits in a state of a valid net.
func wait(n api.Net, s api.Dense, by api.Ratio) (api.Dense, api.Errno) {
	if isNoTime(by) {
		return api.Dense{}, api.ErrArg
	}
	next := copied(s)
	if by == nothing() {
		return next, api.OK
	}
	if isStill(n, s.D) {
		return api.Dense{}, api.ErrDown
	}
	for k, value := range s.Clocks {
		sum, e := ratio.Add(value, by)
		if e != api.OK {
			return api.Dense{}, e
		}
		next.Clocks[k] = sum
	}
	if !isInvariant(n, next) {
		return api.Dense{}, api.ErrDown
	}
	return next, api.OK
}

// most returns how long a state of a valid net may wait.
func most(n api.Net, s api.Dense) (by api.Ratio, attained, ever bool, e api.Errno) {
	if isStill(n, s.D) {
		return nothing(), true, false, api.OK
	}
	l := invariant(n, s.D)
	if len(l) == 0 {
		return api.Ratio{}, false, true, api.OK
	}
	by = whole(api.MaxRatio) // no difference is so great
	for _, c := range l {
		left, e := ratio.Sub(whole(c.C), s.Clocks[c.Clock-1])
		if e != api.OK {
			return api.Ratio{}, false, false, e
		}
		order, _ := ratio.Cmp(left, by)
		if order < 0 {
			by, attained = left, true
		}
		if order <= 0 && c.Strict {
			attained = false
		}
	}
	return by, attained, false, api.OK
}

package zone

import (
	"slices"

	"foliot/api"
	"foliot/limit"
	"foliot/ratio"
)

// Has tells whether a point is in z.
func Has(z api.Zone, p []api.Ratio) (bool, api.Errno) {
	m, values, e := openAt(z, p)
	if e != api.OK {
		return false, e
	}
	return m.meets(values, 0)
}

// Point returns a point of z, with values that are chosen from the clock 1 on.
func Point(z api.Zone) ([]api.Ratio, api.Errno) {
	m, ok := open(z)
	if !ok {
		return nil, api.ErrArg
	}
	values := []api.Ratio{zero()}
	for range m.n {
		choices, e := m.choices(values)
		if e != api.OK {
			return nil, e
		}
		value, e := choose(choices)
		if e != api.OK {
			return nil, e
		}
		values = append(values, value)
	}
	return values[1:], api.OK
}

// Stay returns the delays of a point.
func Stay(z api.Zone, p []api.Ratio) (api.Delays, api.Errno) {
	m, values, e := openAt(z, p)
	if e != api.OK {
		return api.Delays{}, e
	}
	// Time changes only the differences to the clock 0, and these are never out
	// of range, so that leaving them out leaves no error of Has out.
	met, e := m.meets(values, 1)
	if e != api.OK {
		return api.Delays{}, e
	}
	delays := fromZero()
	for i, value := range values[1:] {
		start, _ := ratio.Neg(value) // after the delay d, the clock has the value d - start
		delays, e = within(delays, start, m.row(i + 1)[0], m.row(0)[i+1])
		if e != api.OK {
			return api.Delays{}, e
		}
	}
	if !met || isEmpty(delays) {
		return api.Delays{}, api.ErrNone
	}
	return delays, api.OK
}

// openAt returns the matrix of a zone, and the values of all clocks at a point, from the clock 0 on.
func openAt(z api.Zone, p []api.Ratio) (matrix, []api.Ratio, api.Errno) {
	m, ok := open(z)
	if !ok || len(p) != z.N {
		return matrix{}, nil, api.ErrArg
	}
	for _, value := range p {
		if !ratio.Valid(value) || value.Num < 0 {
			return matrix{}, nil, api.ErrArg
		}
	}
	return m, slices.Concat([]api.Ratio{zero()}, p), api.OK
}

// meets tells whether the differences of the clocks from first on meet their
// bounds. It looks at all of them, as each one may be out of range.
func (m *matrix) meets(values []api.Ratio, first int) (bool, api.Errno) {
	met := true
	for i := first; i <= m.n; i++ {
		for j := first; j <= m.n; j++ {
			difference, e := ratio.Sub(values[i], values[j])
			if e != api.OK {
				return false, e
			}
			ok, e := limit.Meets(difference, m.row(i)[j])
			if e != api.OK {
				return false, e
			}
			met = met && ok
		}
	}
	return met, api.OK
}

// choices returns the values that the next clock behind those with values may
// have. In a canonical matrix the later clocks can follow each of these.
func (m *matrix) choices(values []api.Ratio) (api.Delays, api.Errno) {
	next := len(values)
	all, e := fromZero(), api.OK
	for j, value := range values {
		all, e = within(all, value, m.row(next)[j], m.row(j)[next])
		if e != api.OK {
			return api.Delays{}, e
		}
	}
	return all, api.OK
}

// choose returns the value that Point takes of an interval.
func choose(all api.Delays) (api.Ratio, api.Errno) {
	if !all.LowOpen {
		return all.Low, api.OK
	}
	if all.NoHigh {
		return shift(all.Low, 1)
	}
	return ratio.Middle(all.Low, all.High)
}

// within returns the numbers x of an interval for which x minus start meets
// upper and start minus x meets lower, or ErrRange if an end of these is out of range.
func within(all api.Delays, start api.Ratio, upper, lower api.Limit) (api.Delays, api.Errno) {
	if c, strict, none := limit.Split(upper); none == api.OK {
		high, e := shift(start, c)
		if e != api.OK {
			return api.Delays{}, e
		}
		// Of two ends at one place the strict one leaves less.
		if all.NoHigh || isBelow(high, all.High, strict) {
			all.High, all.HighOpen, all.NoHigh = high, strict, false
		}
	}
	if c, strict, none := limit.Split(lower); none == api.OK {
		low, e := shift(start, -c)
		if e != api.OK {
			return api.Delays{}, e
		}
		if isBelow(all.Low, low, strict) {
			all.Low, all.LowOpen = low, strict
		}
	}
	return all, api.OK
}

// isBelow tells whether a is less than b, or, if that is enough, equal to it.
func isBelow(a, b api.Ratio, equalIsEnough bool) bool {
	order, _ := ratio.Cmp(a, b)
	return order < 0 || order == 0 && equalIsEnough
}

// isEmpty tells whether no number is left in an interval.
func isEmpty(all api.Delays) bool {
	return !all.NoHigh && isBelow(all.High, all.Low, all.LowOpen || all.HighOpen)
}

// shift returns a + c, for a constant of a limit, which is always a ratio.
func shift(a api.Ratio, c int64) (api.Ratio, api.Errno) {
	by, _ := ratio.Of(c)
	return ratio.Add(a, by)
}

// fromZero returns the interval of all numbers from 0 on.
func fromZero() api.Delays { return api.Delays{Low: zero(), NoHigh: true} }

func zero() api.Ratio { return api.Ratio{Den: 1} }

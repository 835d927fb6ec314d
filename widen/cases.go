package widen

import (
	"foliot/api"
	"foliot/limit"
)

// atMostZero is the limit "at most 0".
const atMostZero api.Limit = 1

// element is one of a canonical matrix: it bounds the clock i minus the clock j.
type element struct {
	i, j     int
	bound    api.Limit
	constant int64 // of the bound; 0 of NoLimit
}

func elementOf(i, j int, bound api.Limit) element {
	constant, _, _ := limit.Split(bound)
	return element{i: i, j: j, bound: bound, constant: constant}
}

// rule tells what an element becomes in one case, and whether this case applies to it.
type rule func(e element) (becomes api.Limit, applies bool)

// cases returns the rules in their order, for lower and upper constants of the clocks from 0 on.
func cases(low, high []int64) [4]rule {
	return [4]rule{
		func(e element) (api.Limit, bool) {
			return api.NoLimit, e.bound == api.NoLimit || low[e.i] == never || low[e.i] < e.constant
		},
		func(e element) (api.Limit, bool) {
			if e.i == 0 {
				return atMostZero, high[e.j] == never
			}
			return api.NoLimit, high[e.j] == never
		},
		func(e element) (api.Limit, bool) {
			above, _ := limit.Strict(-high[e.j]) // no error is possible: MaxConst is below MaxBound
			return above, e.constant < -high[e.j]
		},
		func(e element) (api.Limit, bool) { return e.bound, true },
	}
}

// decide returns what the first case that applies makes of an element; the last one always applies.
func decide(rules [4]rule, e element) api.Limit {
	becomes, applies := api.NoLimit, false
	for place := 0; !applies; place++ {
		becomes, applies = rules[place](e)
	}
	return becomes
}

package minimal

import (
	"foliot/api"
	"foliot/limit"
)

// atMostZero is the limit "at most 0".
const atMostZero api.Limit = 1

// classes tells for each clock of a zone which one is the first of its class.
type classes [api.MaxDim + 1]int

// divide returns the classes of a valid zone.
func divide(z api.Zone) classes {
	var c classes
	for i := range z.N + 1 {
		// If the clock is bound to no other one, the search ends at the clock itself.
		for !areBound(z, i, c[i]) {
			c[i]++
		}
	}
	return c
}

// keeps tells whether the bound of the clock i minus the clock j is one of the reduced constraints.
func (c classes) keeps(z api.Zone, i, j int) bool {
	switch {
	case i == j, at(z, i, j) == api.NoLimit:
		return false
	case c[i] == c[j]:
		return c.keepsWithin(z, i, j)
	}
	return c.keepsBetween(z, i, j)
}

// keepsWithin is the rule for two clocks of one class: a ring binds all of them.
func (c classes) keepsWithin(z api.Zone, i, j int) bool {
	return j == c.next(i, z.N) && !isPlain(z, i, j)
}

// keepsBetween is the rule for clocks of two classes.
func (c classes) keepsBetween(z api.Zone, i, j int) bool {
	if c[i] != i || c[j] != j {
		return false
	}
	for k := range z.N + 1 {
		// A clock of the class of j from 0 on brings j along, as its difference to j is known.
		if c[k] == j && isPlain(z, i, k) {
			return false
		}
		if c[k] == k && k != i && k != j && isSum(z, i, k, j) {
			return false
		}
	}
	return true
}

// next returns the clock behind i in its class; behind the last one, of n, it is the first one.
func (c classes) next(i, n int) int {
	for j := i + 1; j <= n; j++ {
		if c[j] == c[i] {
			return j
		}
	}
	return c[i]
}

// at returns the element (i, j) of the matrix of z.
func at(z api.Zone, i, j int) api.Limit { return z.M[i*(z.N+1)+j] }

// areBound tells whether the difference of two clocks is the same at all points of z.
func areBound(z api.Zone, i, j int) bool {
	thereAndBack, e := limit.Add(at(z, i, j), at(z, j, i))
	return e == api.OK && thereAndBack == atMostZero
}

// isSum tells whether the element (i, j) is what the way by k says of it.
func isSum(z api.Zone, i, k, j int) bool {
	// A sum that is out of range is greater than each element of a zone.
	by, e := limit.Add(at(z, i, k), at(z, k, j))
	return e == api.OK && by == at(z, i, j)
}

// isPlain tells whether the element (i, j) says only that the clock j is from 0 on.
func isPlain(z api.Zone, i, j int) bool { return i == 0 && at(z, i, j) == atMostZero }

package federation

import (
	"slices"

	"foliot/api"
	"foliot/zone"
)

// withoutParts leaves out each zone that is contained in another one, from the first one on.
func withoutParts(l []api.Zone) []api.Zone {
	for i := 0; i < len(l); {
		if isPart(l, i) {
			l = slices.Delete(l, i, i+1)
		} else {
			i++
		}
	}
	return l
}

// isPart tells whether the zone at i is contained in another one of the list.
func isPart(l []api.Zone, i int) bool {
	for j, z := range l {
		if j != i && must(zone.Includes(z, l[i])) {
			return true
		}
	}
	return false
}

// join replaces the first two zones whose hull is their union by it, as long as there are two.
func join(l []api.Zone) []api.Zone {
	// No pair with a zone before i can be joined, but for those of a new hull at i:
	// then from is 0, and it is tried with all the others, in the order of the pairs.
	for i, from := 0, 1; i < len(l); {
		j, hull := partner(l, i, from)
		if j == i {
			i, from = i+1, i+2
			continue
		}
		first, second := min(i, j), max(i, j)
		l[first] = hull
		l = slices.Delete(l, second, second+1)
		i, from = first, 0
	}
	return l
}

// partner returns the place of the first zone, from a place on, with which the
// zone at i can be joined, and their hull; i itself if there is no such zone.
func partner(l []api.Zone, i, from int) (int, api.Zone) {
	for j := from; j < len(l); j++ {
		if j == i {
			continue
		}
		x, y := l[min(i, j)], l[max(i, j)]
		hull := must(zone.Hull(x, y))
		if len(minus(one(hull), []api.Zone{x, y})) == 0 {
			return j, hull
		}
	}
	return i, api.Zone{}
}

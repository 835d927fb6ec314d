package federation

import (
	"iter"
	"slices"

	"foliot/api"
	"foliot/zone"
)

// check returns OK for lists that are federations of one dimension.
func check(lists ...[]api.Zone) api.Errno {
	for _, l := range lists {
		if len(l) > api.MaxZones {
			return api.ErrLong
		}
	}
	all := slices.Concat(lists...)
	for _, z := range all {
		if zone.Check(z) != api.OK || z.N != all[0].N {
			return api.ErrArg
		}
	}
	return api.OK
}

// answer returns what is made of federations, or the error that is met on the
// way. Lists that are no federations of one dimension are not worked on at all.
func answer[T any](work func() T, lists ...[]api.Zone) (made T, e api.Errno) {
	defer func() {
		if met := recover(); met != nil {
			e = met.(api.Errno)
		}
	}()
	if e := check(lists...); e != api.OK {
		return made, e
	}
	return work(), api.OK
}

// must returns what a function of a lower layer has returned, or leaves with its error.
func must[T any](made T, e api.Errno) T {
	if e != api.OK {
		panic(e)
	}
	return made
}

// collect returns the list of what is yielded, or leaves as soon as it is too long.
func collect[T any](yielded iter.Seq[T]) []T {
	var l []T
	for x := range yielded {
		if len(l) == api.MaxZones {
			panic(api.ErrLong)
		}
		l = append(l, x)
	}
	return l
}

// each yields what change makes of each zone of a list.
func each(l []api.Zone, change func(z api.Zone) (api.Zone, api.Errno)) iter.Seq[api.Zone] {
	return func(yield func(z api.Zone) bool) {
		for _, z := range l {
			if !yield(must(change(z))) {
				return
			}
		}
	}
}

// copies returns the same zones in new memory.
func copies(l []api.Zone) []api.Zone {
	return collect(each(l, func(z api.Zone) (api.Zone, api.Errno) {
		return api.Zone{N: z.N, M: slices.Clone(z.M)}, api.OK
	}))
}

func one(z api.Zone) []api.Zone { return []api.Zone{z} }

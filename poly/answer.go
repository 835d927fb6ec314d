package poly

import "foliot/api"

// answer returns what is made of lists of the dimension n, or the error that is
// met on the way. Arguments that are no such lists are not worked on at all.
func answer[T any](work func() T, n int, given ...[]api.Line) (made T, e api.Errno) {
	defer func() {
		if met := recover(); met != nil {
			e = met.(api.Errno)
		}
	}()
	for _, l := range given {
		if e := Check(n, l); e != api.OK {
			return made, e
		}
	}
	return work(), api.OK
}

// demand leaves with ErrArg if an argument is not valid.
func demand(valid bool) {
	if !valid {
		panic(api.ErrArg)
	}
}

// must returns what a function of a lower layer has returned, or leaves with its error.
func must[T any](made T, e api.Errno) T {
	if e != api.OK {
		panic(e)
	}
	return made
}

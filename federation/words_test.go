package federation

import (
	"slices"

	"foliot/api"
	"foliot/minimal"
	"foliot/zone"
)

// This file says what the functions return in the words of the document, one
// step after the other, as plainly as possible.

// maker makes a list, up to the first error.
type maker struct {
	l []api.Zone
	e api.Errno
}

// put appends a zone that has been made; one whose set is empty is left out.
func (m *maker) put(z api.Zone, e api.Errno) {
	switch {
	case m.e != api.OK || e == api.ErrNone:
	case e != api.OK:
		m.e = e
	case len(m.l) == api.MaxZones:
		m.e = api.ErrLong
	default:
		m.l = append(m.l, z)
	}
}

// list returns the list, or none with an error.
func (m *maker) list() ([]api.Zone, api.Errno) {
	if m.e != api.OK {
		return nil, m.e
	}
	return m.l, api.OK
}

func (m *maker) cut(x, b api.Zone) {
	_, e := zone.Meet(x, b)
	if e == api.ErrNone {
		m.put(x, api.OK)
		return
	}
	if e != api.OK {
		m.put(api.Zone{}, e)
		return
	}
	rest := x
	borders, _ := minimal.Reduce(b)
	for _, c := range borders {
		m.put(zone.And(rest, []api.Constraint{{I: c.J, J: c.I, L: 1 - c.L}}))
		rest, e = zone.And(rest, []api.Constraint{c})
		if e != api.OK {
			m.put(api.Zone{}, e)
			return
		}
	}
}

func minusByWords(a, b []api.Zone) ([]api.Zone, api.Errno) {
	l := a
	for _, y := range b {
		var next maker
		for _, x := range l {
			if next.e == api.OK {
				next.cut(x, y)
			}
		}
		if next.e != api.OK {
			return nil, next.e
		}
		l = next.l
	}
	return l, api.OK
}

func meetByWords(a, b []api.Zone) ([]api.Zone, api.Errno) {
	var m maker
	for _, x := range a {
		for _, y := range b {
			m.put(zone.Meet(x, y))
		}
	}
	return m.list()
}

func includesByWords(a, b []api.Zone) (bool, api.Errno) {
	l, e := minusByWords(b, a)
	return e == api.OK && len(l) == 0, e
}

// partByWords returns the first zone that is contained in another one, or -1.
func partByWords(l []api.Zone) int {
	for i, x := range l {
		for j, y := range l {
			if in, _ := zone.Includes(y, x); in && i != j {
				return i
			}
		}
	}
	return -1
}

// pairByWords returns the first pair whose hull is contained in its union, and the hull.
func pairByWords(l []api.Zone) (i, j int, hull api.Zone, e api.Errno) {
	for i := range l {
		for j := i + 1; j < len(l); j++ {
			hull, e := zone.Hull(l[i], l[j])
			if e != api.OK {
				return 0, 0, hull, e
			}
			in, e := includesByWords([]api.Zone{l[i], l[j]}, []api.Zone{hull})
			if in || e != api.OK {
				return i, j, hull, e
			}
		}
	}
	return 0, 0, api.Zone{}, api.ErrNone
}

func simplifyByWords(l []api.Zone) ([]api.Zone, api.Errno) {
	l = slices.Clone(l)
	for i := partByWords(l); i >= 0; i = partByWords(l) {
		l = slices.Delete(l, i, i+1)
	}
	for {
		i, j, hull, e := pairByWords(l)
		if e == api.ErrNone {
			return l, api.OK
		}
		if e != api.OK {
			return nil, e
		}
		l[i] = hull
		l = slices.Delete(l, j, j+1)
	}
}

func downByWords(l []api.Zone) ([]api.Zone, api.Errno) {
	var m maker
	for _, z := range l {
		m.put(zone.Down(z))
	}
	return m.list()
}

// reachByWords returns the list of Within for one zone of good.
func reachByWords(g api.Zone, bad []api.Zone) ([]api.Zone, api.Errno) {
	before, e := downByWords([]api.Zone{g})
	if e != api.OK {
		return nil, e
	}
	l := before
	for _, b := range bad {
		ahead, e1 := downByWords([]api.Zone{b})
		never, e2 := minusByWords(before, ahead)
		there, e3 := meetByWords([]api.Zone{g}, ahead)
		behind, e4 := minusByWords(there, []api.Zone{b})
		behind, e5 := downByWords(behind)
		for _, e := range []api.Errno{e1, e2, e3, e4, e5} {
			if e != api.OK {
				return nil, e
			}
		}
		if l, e = meetByWords(l, slices.Concat(never, behind)); e != api.OK {
			return nil, e
		}
	}
	return l, api.OK
}

func withinByWords(good, bad []api.Zone) ([]api.Zone, api.Errno) {
	var m maker
	for _, g := range good {
		l, e := reachByWords(g, bad)
		if e != api.OK {
			m.put(api.Zone{}, e)
		}
		for _, z := range l {
			m.put(z, api.OK)
		}
	}
	return m.list()
}

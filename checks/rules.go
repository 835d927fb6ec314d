package checks

import (
	"foliot/api"
	"foliot/typed"
)

// firstError returns what Check does, for a model that has the form of one.
func firstError(m api.Model) (int, api.Errno) {
	if e := declarationsError(m); e != api.OK {
		return -1, e
	}
	s := newScope(m)
	for k, p := range m.Procs {
		if e := s.procError(p); e != api.OK {
			return k, e
		}
	}
	return 0, api.OK
}

// scope is what the parts of a model may name: numbers by names.
type scope struct {
	clocks, vars, chans, locs map[string]int
	varNames                  []string
	m                         api.Model
}

func newScope(m api.Model) *scope {
	names := varNames(m)
	return &scope{
		clocks: numbers(m.Clocks, 1), vars: numbers(names, 0), chans: numbers(chanNames(m), 0),
		varNames: names, m: m,
	}
}

// numbers gives each name a number, from the first one on.
func numbers(names []string, first int) map[string]int {
	known := map[string]int{}
	for k, name := range names {
		known[name] = first + k
	}
	return known
}

func varNames(m api.Model) []string {
	return each(m.Vars, func(v api.Var) string { return v.Name })
}

func chanNames(m api.Model) []string {
	return each(m.Chans, func(c api.Chan) string { return c.Name })
}

func locNames(p api.Proc) []string {
	return each(p.Locs, func(l api.Loc) string { return l.Name })
}

// each returns what f makes of the elements of a list.
func each[A, B any](l []A, f func(x A) B) []B {
	made := make([]B, len(l))
	for k, x := range l {
		made[k] = f(x)
	}
	return made
}

// first returns the first error that the elements of a list have.
func first[T any](l []T, errorOf func(x T) api.Errno) api.Errno {
	for _, x := range l {
		if e := errorOf(x); e != api.OK {
			return e
		}
	}
	return api.OK
}

// unless returns the error if what must hold does not hold.
func unless(holds bool, e api.Errno) api.Errno {
	if holds {
		return api.OK
	}
	return e
}

func isFrom0To(n, highest int64) bool { return n >= 0 && n <= highest }

func declarationsError(m api.Model) api.Errno {
	names := append(append(append([]string{}, m.Clocks...), varNames(m)...), chanNames(m)...)
	for _, f := range m.Funcs {
		names = append(names, f.Name)
	}
	for _, p := range m.Procs {
		names = append(names, p.Name)
	}
	if !areDifferent(names) {
		return api.ErrName
	}
	if e := first(m.Vars, func(v api.Var) api.Errno { return unless(v.Low <= v.Init && v.Init <= v.High, api.ErrRule) }); e != api.OK {
		return e
	}
	if _, e := typed.Funcs(m.Funcs, varNames(m)); e != api.OK {
		return e
	}
	return unless(len(m.Procs) > 0, api.ErrRule)
}

func areDifferent(names []string) bool { return len(numbers(names, 0)) == len(names) }

func (s *scope) procError(p api.Proc) api.Errno {
	if len(p.Locs) == 0 {
		return api.ErrRule
	}
	names := locNames(p)
	s.locs = numbers(names, 0)
	if !areDifferent(names) || !isKnown(s.locs, p.Init) {
		return api.ErrName
	}
	if e := first(p.Locs, s.locError); e != api.OK {
		return e
	}
	return s.edgesError(p.Edges)
}

func isKnown(names map[string]int, name string) bool {
	_, ok := names[name]
	return ok
}

func (s *scope) locError(l api.Loc) api.Errno {
	if e := first(l.Inv, s.boundError); e != api.OK {
		return e
	}
	return unless(isFrom0To(l.Rate, api.MaxRate), api.ErrRule)
}

// boundError returns the error of a test of an invariant.
func (s *scope) boundError(t api.Test) api.Errno {
	if e := s.testError(t); e != api.OK {
		return e
	}
	return unless(!t.Lower && !(t.Strict && t.C == 0), api.ErrRule)
}

func (s *scope) testError(t api.Test) api.Errno { return s.clockError(t.Clock, t.C) }

// clockError returns the error of a clock and its constant.
func (s *scope) clockError(clock string, c int64) api.Errno {
	if !isKnown(s.clocks, clock) {
		return api.ErrName
	}
	return unless(isFrom0To(c, api.MaxConst), api.ErrRule)
}

func (s *scope) edgesError(l []api.Edge) api.Errno {
	e := api.OK
edges:
	for _, x := range l {
		for _, rule := range s.rules(x) {
			if e = rule(); e != api.OK {
				break edges
			}
		}
	}
	return e
}

// rules returns the rules of an edge in the order in which they are examined.
func (s *scope) rules(x api.Edge) []func() api.Errno {
	return []func() api.Errno{
		func() api.Errno { return unless(isKnown(s.locs, x.From) && isKnown(s.locs, x.To), api.ErrName) },
		func() api.Errno { return first(x.Tests, s.testError) },
		func() api.Errno { return s.condError(x.Cond) },
		func() api.Errno { return unless(x.Chan == "" || isKnown(s.chans, x.Chan), api.ErrName) },
		func() api.Errno { return first(x.Sets, s.setError) },
		func() api.Errno {
			return first(x.Clears, func(c api.Clear) api.Errno { return s.clockError(c.Clock, c.To) })
		},
		func() api.Errno {
			return unless(isFrom0To(x.Cost, api.MaxRate) && isFrom0To(int64(x.Kind), 1), api.ErrRule)
		},
		func() api.Errno { return unless(len(x.Tests) == 0 || s.mayTest(x), api.ErrRule) },
	}
}

func (s *scope) condError(x api.Exp) api.Errno {
	if x.Kind == 0 {
		return api.OK
	}
	return s.expError(x)
}

func (s *scope) expError(x api.Exp) api.Errno { return typed.Exp(x, s.varNames, s.m.Funcs) }

func (s *scope) setError(a api.Assign) api.Errno {
	if !isKnown(s.vars, a.Name) {
		return api.ErrName
	}
	return s.expError(a.Val)
}

// mayTest tells whether the channel of an edge leaves it free to have tests.
func (s *scope) mayTest(x api.Edge) bool {
	if x.Chan == "" {
		return true
	}
	c := s.m.Chans[s.chans[x.Chan]]
	return !c.Urgent && (x.Send || !c.Broadcast)
}

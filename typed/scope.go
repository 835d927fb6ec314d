package typed

import (
	"slices"

	"foliot/api"
	"foliot/code"
)

// scope is what is known at one place of functions or of an expression.
type scope struct {
	known    map[string]bool // true for the own names of a function, which it may set, false for the given ones
	own      []string        // the names that are true, in the order in which they were made
	callable []api.Func
}

func newScope(names []string) *scope {
	known := make(map[string]bool, len(names))
	for _, name := range names {
		known[name] = false
	}
	return &scope{known: known}
}

func (s *scope) knows(name string) bool {
	_, isKnown := s.known[name]
	return isKnown
}

// add makes a parameter or a local variable.
func (s *scope) add(name string) api.Errno {
	if s.knows(name) {
		return api.ErrName
	}
	s.known[name] = true
	s.own = append(s.own, name)
	return api.OK
}

// leave forgets all own names but the first ones.
func (s *scope) leave(first int) {
	for _, name := range s.own[first:] {
		delete(s.known, name)
	}
	s.own = s.own[:first]
}

// find returns the index of the function of this name that may be called, or -1.
func (s *scope) find(name string) int {
	return slices.IndexFunc(s.callable, func(f api.Func) bool { return f.Name == name })
}

// functions looks at a list of functions, which may all be called then.
func (s *scope) functions(l []api.Func) (int, api.Errno) {
	if e := code.CheckFuncs(l); e != api.OK {
		return 0, e
	}
	for k, f := range l {
		if e := s.function(f); e != api.OK {
			return k, e
		}
		s.callable = l[:k+1]
	}
	return 0, api.OK
}

func (s *scope) function(f api.Func) api.Errno {
	if s.knows(f.Name) || s.find(f.Name) >= 0 {
		return api.ErrName
	}
	defer s.leave(len(s.own))
	for _, name := range f.Params {
		if e := s.add(name); e != api.OK {
			return e
		}
	}
	if e := s.list(f.Body); e != api.OK {
		return e
	}
	if !returns(f.Body) {
		return api.ErrReturn
	}
	return api.OK
}

func (s *scope) list(l []api.Stmt) api.Errno {
	defer s.leave(len(s.own))
	for _, x := range l {
		if e := s.statement(x); e != api.OK {
			return e
		}
	}
	return api.OK
}

func (s *scope) statement(x api.Stmt) api.Errno {
	if e := s.exp(x.Val); e != api.OK {
		return e
	}
	switch {
	case x.Kind == api.StVar:
		return s.add(x.Name)
	case x.Kind == api.StSet && !s.known[x.Name]:
		return api.ErrName
	}
	if e := s.list(x.Body); e != api.OK {
		return e
	}
	return s.list(x.Else)
}

func (s *scope) exp(x api.Exp) api.Errno {
	for _, part := range x.Args {
		if e := s.exp(part); e != api.OK {
			return e
		}
	}
	switch {
	case x.Kind == api.ExName && !s.knows(x.Name):
		return api.ErrName
	case x.Kind == api.ExCall:
		return s.call(x.Name, len(x.Args))
	}
	return api.OK
}

func (s *scope) call(name string, args int) api.Errno {
	k := s.find(name)
	switch {
	case k < 0:
		return api.ErrName
	case len(s.callable[k].Params) != args:
		return api.ErrCount
	}
	return api.OK
}

// returns tells whether a list of statements returns on all ways through it.
func returns(l []api.Stmt) bool {
	return slices.ContainsFunc(l, func(x api.Stmt) bool {
		return x.Kind == api.StReturn || x.Kind == api.StIf && returns(x.Body) && returns(x.Else)
	})
}

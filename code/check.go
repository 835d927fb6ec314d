package code

import (
	"slices"

	"foliot/api"
)

func all[T any](l []T, isOne func(x T) bool) bool {
	return !slices.ContainsFunc(l, func(x T) bool { return !isOne(x) })
}

// hasItsFields tells whether an expression has the fields of its kind, and no
// others, whatever its parts are.
func hasItsFields(x *api.Exp) bool {
	switch x.Kind {
	case api.ExInt:
		return x.Name == "" && len(x.Args) == 0 && x.Int >= -api.MaxValue && x.Int <= api.MaxValue
	case api.ExName:
		return Name(x.Name) && len(x.Args) == 0 && x.Int == 0
	case api.ExCall:
		return Name(x.Name) && x.Int == 0
	}
	return x.Name == "" && x.Int == 0 && len(x.Args) > 0 && len(x.Args) == parts(x.Kind)
}

// parts returns how many parts an operation has; 0 if it is none.
func parts(kind int) int {
	switch {
	case kind == api.ExNeg || kind == api.ExNot:
		return 1
	case kind >= api.ExAdd && kind <= api.ExOr:
		return 2
	case kind == api.ExIf:
		return 3
	}
	return 0
}

// stmtHasItsFields tells it of a statement, whatever the expressions and
// statements in it are.
func stmtHasItsFields(s *api.Stmt) bool {
	hasName, hasBody, hasElse := false, false, false
	switch s.Kind {
	case api.StVar, api.StSet:
		hasName = true
	case api.StIf:
		hasBody, hasElse = true, true
	case api.StWhile:
		hasBody = true
	case api.StReturn:
	default:
		return false
	}
	isNamed := s.Name == ""
	if hasName {
		isNamed = Name(s.Name)
	}
	return isNamed && (hasBody || len(s.Body) == 0) && (hasElse || len(s.Else) == 0)
}

func headIsNamed(f *api.Func) bool { return Name(f.Name) && all(f.Params, Name) }

// everywhere tells whether all elements of a list, and of the lists in it, are
// such ones. It looks at each place in memory once, as a list may contain
// itself.
func everywhere[T any](l []T, isOne func(x *T) bool, within func(x *T) [][]T) bool {
	waiting, known := [][]T{l}, map[*T]bool{}
	for len(waiting) > 0 {
		last := len(waiting) - 1
		l, waiting = waiting[last], waiting[:last]
		for k := range l {
			x := &l[k]
			if known[x] {
				continue
			}
			if !isOne(x) {
				return false
			}
			known[x] = true
			waiting = append(waiting, within(x)...)
		}
	}
	return true
}

func isExp(x api.Exp) bool {
	return everywhere([]api.Exp{x}, hasItsFields, func(x *api.Exp) [][]api.Exp { return [][]api.Exp{x.Args} })
}

func isFunc(f api.Func) bool {
	return headIsNamed(&f) && everywhere(f.Body,
		func(s *api.Stmt) bool { return stmtHasItsFields(s) && isExp(s.Val) },
		func(s *api.Stmt) [][]api.Stmt { return [][]api.Stmt{s.Body, s.Else} })
}

// count counts the expressions and statements of what is small and well-formed,
// and stops as soon as something is not. So it looks at few of them, without
// the memory that everywhere needs.
type count struct{ nodes int }

// add counts one that is nested so deep, and tells whether all is small so far.
func (c *count) add(depth int) bool {
	c.nodes++
	return c.nodes <= api.MaxNodes && depth <= api.MaxNest
}

func (c *count) exp(x api.Exp, depth int) bool {
	return c.add(depth) && hasItsFields(&x) && (x.Kind != api.ExCall || len(x.Args) <= api.MaxParams) &&
		all(x.Args, func(y api.Exp) bool { return c.exp(y, depth+1) })
}

func (c *count) stmts(l []api.Stmt, depth int) bool {
	return all(l, func(s api.Stmt) bool {
		return c.add(depth) && stmtHasItsFields(&s) && c.exp(s.Val, depth+1) &&
			c.stmts(s.Body, depth+1) && c.stmts(s.Else, depth+1)
	})
}

func (c *count) funcs(l []api.Func) bool {
	return len(l) <= api.MaxFuncs && all(l, func(f api.Func) bool {
		return len(f.Params) <= api.MaxParams && headIsNamed(&f) && c.stmts(f.Body, 1)
	})
}

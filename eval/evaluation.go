package eval

import (
	"slices"

	"foliot/api"
)

// evaluation is the evaluation of one expression, with all that it calls.
type evaluation struct {
	operators map[int]func(part parts) int64
	functions []api.Func
	given     map[string]int64
	steps     int // that have begun
}

// locals are the parameters and local variables of a call. A variable stays in
// them where it is not known any more: no function without a static error asks
// for it there.
type locals map[string]int64

// broken is the error with which an evaluation ends: the evaluation leaves with it.
type broken api.Errno

func leave(e api.Errno) { panic(broken(e)) }

// run evaluates the expression up to its end.
func (v *evaluation) run(x api.Exp) (value int64, e api.Errno) {
	defer func() {
		if met := recover(); met != nil {
			value, e = 0, api.Errno(met.(broken))
		}
	}()
	return v.exp(x, nil), api.OK
}

func (v *evaluation) step() {
	if v.steps == api.MaxSteps {
		leave(api.ErrSteps)
	}
	v.steps++
}

func (v *evaluation) exp(x api.Exp, own locals) int64 {
	v.step()
	part := func(k int) int64 { return v.exp(x.Args[k], own) }
	switch x.Kind {
	case api.ExInt:
		return x.Int
	case api.ExName:
		return v.name(x.Name, own)
	case api.ExCall:
		return v.call(x.Name, part)
	}
	value := v.operators[x.Kind](part)
	if !fits(value) {
		leave(api.ErrRange)
	}
	return value
}

func (v *evaluation) name(name string, own locals) int64 {
	if value, isOwn := own[name]; isOwn {
		return value
	}
	return v.given[name]
}

func (v *evaluation) call(name string, arg parts) int64 {
	at := slices.IndexFunc(v.functions, func(f api.Func) bool { return f.Name == name })
	f := v.functions[at]
	own := locals{}
	for k, param := range f.Params {
		own[param] = arg(k)
	}
	value, _ := v.list(f.Body, own)
	return value
}

// list executes statements, up to the one that returns a value, and tells whether there was one.
func (v *evaluation) list(l []api.Stmt, own locals) (int64, bool) {
	for _, s := range l {
		if value, isDone := v.statement(s, own); isDone {
			return value, true
		}
	}
	return 0, false
}

func (v *evaluation) statement(s api.Stmt, own locals) (int64, bool) {
	v.step()
	value := v.exp(s.Val, own)
	switch {
	case s.Kind == api.StReturn:
		return value, true
	case s.Kind == api.StWhile:
		return v.loop(s, value, own)
	case s.Kind == api.StIf && value != 0:
		return v.list(s.Body, own)
	case s.Kind == api.StIf:
		return v.list(s.Else, own)
	}
	own[s.Name] = value
	return 0, false
}

// loop executes a StWhile, whose condition has been evaluated for the first time.
func (v *evaluation) loop(s api.Stmt, condition int64, own locals) (int64, bool) {
	for condition != 0 {
		if value, isDone := v.list(s.Body, own); isDone {
			return value, true
		}
		condition = v.exp(s.Val, own)
	}
	return 0, false
}

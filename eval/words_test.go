package eval

import (
	"math/big"
	"slices"
	"testing"

	"foliot/api"
)

// The chapter once more, word for word: an evaluation may have more steps than
// 1000 here, and is cut off behind the step 1000 then. Numbers are of any size;
// a list of statements has a list of variables of its own.
type words struct {
	functions []api.Func
	steps     int
	e         api.Errno // how the evaluation has ended: from then on nothing happens
}

const farAway = 1200

type variable struct {
	name  string
	value *big.Int
}

func (w *words) step() bool {
	if w.e == api.OK {
		w.steps++
	}
	if w.steps > farAway {
		w.e = api.ErrSteps
	}
	return w.e == api.OK
}

func (w *words) end(e api.Errno) {
	if w.e == api.OK {
		w.e = e
	}
}

var signs = map[int]string{
	api.ExAdd: "+", api.ExSub: "-", api.ExMul: "*", api.ExDiv: "/", api.ExMod: "%",
	api.ExLt: "<", api.ExLe: "<=", api.ExEq: "==", api.ExNe: "!=", api.ExGe: ">=", api.ExGt: ">", api.ExAnd: "&&", api.ExOr: "||",
}

func (w *words) exp(x api.Exp, known []*variable) *big.Int {
	if !w.step() {
		return new(big.Int)
	}
	switch x.Kind {
	case api.ExInt:
		return big.NewInt(x.Int)
	case api.ExName:
		return find(known, x.Name).value
	case api.ExCall:
		return w.call(x, known)
	}
	first := w.exp(x.Args[0], known)
	result := new(big.Int)
	switch {
	case x.Kind == api.ExNeg:
		result.Neg(first)
	case x.Kind == api.ExNot:
		result = bit(first.Sign() == 0)
	case x.Kind == api.ExIf && first.Sign() != 0:
		result = w.exp(x.Args[1], known)
	case x.Kind == api.ExIf:
		result = w.exp(x.Args[2], known)
	case x.Kind == api.ExAnd && first.Sign() == 0 || x.Kind == api.ExOr && first.Sign() != 0:
		result = inWords(signs[x.Kind], first, first)
	default:
		result = inWords(signs[x.Kind], first, w.exp(x.Args[1], known))
	}
	if e := ending(result, 0).e; e != api.OK {
		w.end(e)
		return new(big.Int)
	}
	return result
}

// find returns the variable of this name that was made last.
func find(known []*variable, name string) *variable {
	k := len(known) - 1
	for known[k].name != name {
		k--
	}
	return known[k]
}

// call begins with the given names, which stand before the parameters and local variables of all functions.
func (w *words) call(x api.Exp, known []*variable) *big.Int {
	inside := known[:2:2]
	f := w.functions[slices.IndexFunc(w.functions, func(f api.Func) bool { return f.Name == x.Name })]
	for k, y := range x.Args {
		inside = append(inside, &variable{f.Params[k], w.exp(y, known)})
	}
	result := w.list(f.Body, inside)
	if result == nil {
		return new(big.Int)
	}
	return result
}

// list returns nil if nothing is returned.
func (w *words) list(l []api.Stmt, known []*variable) *big.Int {
	known = slices.Clone(known)
	for _, s := range l {
		if !w.step() {
			return nil
		}
		value := w.exp(s.Val, known)
		var result *big.Int
		switch s.Kind {
		case api.StVar:
			known = append(known, &variable{s.Name, value})
		case api.StSet:
			find(known, s.Name).value = value
		case api.StReturn:
			result = value
		case api.StIf:
			chosen := s.Body
			if value.Sign() == 0 {
				chosen = s.Else
			}
			result = w.list(chosen, known)
		case api.StWhile:
			for result == nil && value.Sign() != 0 && w.e == api.OK {
				if result = w.list(s.Body, known); result == nil {
					value = w.exp(s.Val, known)
				}
			}
		}
		if result != nil {
			return result
		}
	}
	return nil
}

func outcomeInWords(x api.Exp, values []int64, l []api.Func) outcome {
	w := words{functions: l}
	result := w.exp(x, []*variable{{"v", big.NewInt(values[0])}, {"w", big.NewInt(values[1])}})
	switch {
	case w.steps > mostSteps:
		return outcome{0, api.ErrSteps, mostSteps}
	case w.e != api.OK:
		return outcome{0, w.e, w.steps}
	}
	return outcome{result.Int64(), api.OK, w.steps}
}

// P10.1, P10.2: random functions and expressions against the document's words.
func TestInWords(t *testing.T) {
	g := newGenerator(1)
	seen := map[api.Errno]int{}
	long, results := 0, map[int64]bool{}
	for range 50000 {
		x, l, text := g.program(t)
		values := g.values()
		want := outcomeInWords(x, values, l)
		if got := outcomeOf(t, x, names, values, l); got != want {
			t.Fatalf("%s, v = %d, w = %d: %+v, not %+v", text, values[0], values[1], got, want)
		}
		seen[want.e]++
		results[want.value] = true
		if want.e == api.OK && want.steps > 100 {
			long++
		}
	}
	if min(seen[api.OK], seen[api.ErrRange], seen[api.ErrMath], seen[api.ErrSteps], long, len(results)) < 500 {
		t.Errorf("too few of some: %v, %d long, %d values", seen, long, len(results))
	}
}

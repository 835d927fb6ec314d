package dense_test

import (
	"fmt"
	"math/big"
	"testing"

	"foliot/api"
	"foliot/dense"
	"foliot/discrete"
)

// The chapter's words once more, with numbers of any size.

func number(r api.Ratio) *big.Rat { return big.NewRat(r.Num, r.Den) }

func isValid(r api.Ratio) bool {
	if r.Den < 1 || r.Den > api.MaxRatio || r.Num < -api.MaxRatio || r.Num > api.MaxRatio {
		return false
	}
	return number(r).Denom().Int64() == r.Den
}

// ratioOf returns the ratio of a number, and whether it has one.
func ratioOf(x *big.Rat) (api.Ratio, bool) {
	if !x.Num().IsInt64() || !x.Denom().IsInt64() {
		return api.Ratio{}, false
	}
	r := api.Ratio{Num: x.Num().Int64(), Den: x.Denom().Int64()}
	return r, isValid(r)
}

func holdsByWords(c api.Con, clocks []api.Ratio) bool {
	value, constant := number(clocks[c.Clock-1]), big.NewRat(c.C, 1)
	if c.Lower {
		value, constant = constant, value
	}
	if c.Strict {
		return value.Cmp(constant) < 0
	}
	return value.Cmp(constant) <= 0
}

func allHold(l []api.Con, clocks []api.Ratio) bool {
	for _, c := range l {
		if !holdsByWords(c, clocks) {
			return false
		}
	}
	return true
}

func invariantByWords(n api.Net, d api.Discrete) []api.Con {
	var l []api.Con
	for p, loc := range d.Locs {
		l = append(l, n.Procs[p].Locs[loc].Inv...)
	}
	return l
}

func isStateByWords(n api.Net, s api.Dense) bool {
	if discrete.Check(n, s.D) != api.OK || len(s.Clocks) != n.Clocks {
		return false
	}
	for _, c := range s.Clocks {
		if !isValid(c) || c.Num < 0 {
			return false
		}
	}
	return allHold(invariantByWords(n, s.D), s.Clocks)
}

func waitByWords(n api.Net, s api.Dense, by api.Ratio) (api.Dense, api.Errno) {
	if !isStateByWords(n, s) || !isValid(by) || by.Num < 0 {
		return api.Dense{}, api.ErrArg
	}
	if by.Num == 0 {
		return s, api.OK
	}
	if still, _ := discrete.Still(n, s.D); still {
		return api.Dense{}, api.ErrDown
	}
	next := api.Dense{D: s.D}
	for _, c := range s.Clocks {
		sum, fits := ratioOf(new(big.Rat).Add(number(c), number(by)))
		if !fits {
			return api.Dense{}, api.ErrRange
		}
		next.Clocks = append(next.Clocks, sum)
	}
	if !allHold(invariantByWords(n, s.D), next.Clocks) {
		return api.Dense{}, api.ErrDown
	}
	return next, api.OK
}

func mostByWords(n api.Net, s api.Dense) (by api.Ratio, attained, ever bool, e api.Errno) {
	if !isStateByWords(n, s) {
		return by, false, false, api.ErrArg
	}
	if still, _ := discrete.Still(n, s.D); still {
		return api.Ratio{Num: 0, Den: 1}, true, false, api.OK
	}
	l := invariantByWords(n, s.D)
	if len(l) == 0 {
		return by, false, true, api.OK
	}
	var least *big.Rat
	for _, c := range l {
		left := new(big.Rat).Sub(big.NewRat(c.C, 1), number(s.Clocks[c.Clock-1]))
		if _, fits := ratioOf(left); !fits {
			return by, false, false, api.ErrRange
		}
		if least == nil || left.Cmp(least) < 0 {
			least = left
		}
	}
	attained = true
	for _, c := range l {
		left := new(big.Rat).Sub(big.NewRat(c.C, 1), number(s.Clocks[c.Clock-1]))
		if left.Cmp(least) == 0 && c.Strict {
			attained = false
		}
	}
	by, _ = ratioOf(least)
	return by, attained, false, api.OK
}

func actByWords(n api.Net, s api.Dense, move int) (api.Dense, api.Errno) {
	if !isStateByWords(n, s) {
		return api.Dense{}, api.ErrArg
	}
	moves, e := discrete.Moves(n, s.D)
	if e != api.OK {
		return api.Dense{}, e
	}
	for k, m := range moves {
		if k != move {
			continue
		}
		next := api.Dense{D: m.Next, Clocks: append([]api.Ratio{}, s.Clocks...)}
		for _, reset := range m.Resets {
			next.Clocks[reset.Clock-1] = api.Ratio{Num: reset.To, Den: 1}
		}
		if allHold(m.Guards, s.Clocks) && allHold(invariantByWords(n, m.Next), next.Clocks) {
			return next, api.OK
		}
		return api.Dense{}, api.ErrDown
	}
	return api.Dense{}, api.ErrNone
}

func enabledByWords(n api.Net, s api.Dense) ([]int, api.Errno) {
	var l []int
	for k := 0; ; k++ {
		switch _, e := actByWords(n, s, k); e {
		case api.OK:
			l = append(l, k)
		case api.ErrDown:
		case api.ErrNone:
			return l, api.OK
		default:
			return nil, e
		}
	}
}

func runByWords(n api.Net, s api.Dense, l []api.Step) (api.Dense, int, api.Errno) {
	if !isStateByWords(n, s) {
		return api.Dense{}, 0, api.ErrArg
	}
	for k, x := range l {
		next, e := waitByWords(n, s, x.Wait)
		if e == api.OK && x.Move != -1 {
			next, e = actByWords(n, next, x.Move)
		}
		if e != api.OK {
			return api.Dense{}, k, e
		}
		s = next
	}
	return s, len(l), api.OK
}

// P14.1 to P14.5: random nets against the chapter's words.
func TestAgainstWords(t *testing.T) {
	r := newMaker(2)
	errors := map[api.Errno]int{}
	for range 1500 {
		n := r.net()
		s := r.state(n)
		if r.IntN(4) == 0 {
			s = r.anyState(n)
		}
		by, l, what := r.number(), r.steps(), short(n)
		if e := dense.Check(n, s); (e == api.OK) != isStateByWords(n, s) {
			t.Errorf("%s: Check of %s is %d", what, plain(s), e)
		}
		next, e := waitByWords(n, s, by)
		checkText(t, what+": Wait of "+plain(by)+" in "+stateText(s), wait(t, n, s, by), answer(t, n, next, e))
		errors[e]++
		least, attained, ever, e := mostByWords(n, s)
		checkMost(t, what, n, s, least, attained, ever, e)
		possible, e := enabledByWords(n, s)
		checkText(t, what+": Enabled of "+stateText(s), enabled(n, s), fmt.Sprintln(len(possible), possible, e))
		for k := range 5 {
			next, e := actByWords(n, s, k-1)
			checkText(t, fmt.Sprint(what, ": Act of ", stateText(s), k-1), act(t, n, s, k-1), answer(t, n, next, e))
		}
		next, k, e := runByWords(n, s, l)
		checkText(t, what+": Run of "+plain(l)+" in "+stateText(s), run(t, n, s, l), fmt.Sprint(answer(t, n, next, e), " ", k))
		errors[e+1000]++
	}
	for _, e := range []api.Errno{api.OK, api.ErrArg, api.ErrDown, api.ErrRange, 1000 + api.OK, 1000 + api.ErrArg, 1000 + api.ErrDown, 1000 + api.ErrNone, 1000 + api.ErrRange} {
		if errors[e] < 20 {
			t.Errorf("only %d of %d", errors[e], e)
		}
	}
}

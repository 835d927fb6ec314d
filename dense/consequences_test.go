package dense_test

import (
	"testing"

	"foliot/api"
	"foliot/dense"
	"foliot/ratio"
)

// P14.6: waiting for a and then for b is waiting for their sum, as long as the numbers fit.
func TestWaitsAddUp(t *testing.T) {
	r := newMaker(6)
	possible, impossible := 0, 0
	for range 3000 {
		n := r.net()
		s, a, b := r.state(n), r.number(), r.number()
		sum, e := ratio.Add(a, b)
		if e != api.OK {
			continue
		}
		once, e := dense.Wait(n, s, sum)
		between, eA := dense.Wait(n, s, a)
		twice, eB := api.Dense{}, eA
		if eA == api.OK {
			twice, eB = dense.Wait(n, between, b)
		}
		if e == api.ErrRange || eA == api.ErrRange || eB == api.ErrRange {
			continue
		}
		if e != eB || !same(once, twice) {
			t.Errorf("%s: %s waits %v and %v, %d: %s, and their sum, %d: %s", short(n), plain(s), a, b, eB, plain(twice), e, plain(once))
		}
		if e == api.OK {
			possible++
		} else {
			impossible++
		}
	}
	if possible < 300 || impossible < 300 {
		t.Errorf("only %d waits, and %d that are not possible", possible, impossible)
	}
}

// P14.6: a wait is possible exactly if Most says so, as long as the numbers fit.
func TestMostIsWhatWaitMayWait(t *testing.T) {
	r := newMaker(7)
	seen := map[bool]int{}
	for range 3000 {
		n := r.net()
		s := r.state(n)
		least, attained, ever, e := dense.Most(n, s)
		if e != api.OK {
			continue
		}
		waits := []api.Ratio{r.number(), r.number()}
		if !ever {
			waits = append(waits, least)
		}
		for _, by := range waits {
			next, e := dense.Wait(n, s, by)
			if e == api.ErrRange {
				continue
			}
			order, _ := ratio.Cmp(by, least)
			want := ever || order < 0 || order == 0 && attained || by.Num == 0
			if (e == api.OK) != want {
				t.Errorf("%s: Most of %s is %v, %v, %v, and Wait of %v is %s, %d", short(n), plain(s), least, attained, ever, by, plain(next), e)
			}
			seen[want]++
		}
	}
	if seen[true] < 1000 || seen[false] < 1000 {
		t.Errorf("too few waits: %v", seen)
	}
}

// P14.7: what is reached is a state again.
func TestStatesAreReached(t *testing.T) {
	r := newMaker(8)
	waits, moves := 0, 0
	for range 500 {
		n := r.net()
		s := first(t, n)
		for range 20 {
			if next, e := dense.Wait(n, s, r.number()); e == api.OK {
				s = next
				waits++
			}
			if l, e := dense.Enabled(n, s); e == api.OK && len(l) > 0 {
				if s, e = dense.Act(n, s, l[r.IntN(len(l))]); e != api.OK {
					t.Fatalf("%s: a move that is enabled: %d", short(n), e)
				}
				moves++
			}
			if e := dense.Check(n, s); e != api.OK {
				t.Fatalf("%s: %s is reached: %d", short(n), plain(s), e)
			}
		}
	}
	if waits < 1000 || moves < 1000 {
		t.Errorf("only %d waits and %d moves", waits, moves)
	}
}

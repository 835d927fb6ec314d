package discrete_test

import (
	"slices"
	"testing"

	"foliot/api"
	"foliot/discrete"
)

// P13.6: the moves of a state are different, and lead to discrete states.
func TestMovesAreDifferent(t *testing.T) {
	r := newMaker(4)
	count := 0
	for range 1000 {
		n := r.net(5)
		d := r.state(n)
		l, e := discrete.Moves(n, d)
		if e != api.OK {
			continue
		}
		known := map[string]bool{}
		for _, m := range l {
			count++
			if known[plain(m.Acts)] || len(m.Acts) == 0 {
				t.Errorf("%s: %v in %+v is no move, or one that there was before", plain(n), m.Acts, d)
			}
			known[plain(m.Acts)] = true
			if e := discrete.Check(n, m.Next); e != api.OK {
				t.Errorf("%s: a move of %+v leads to %+v: %d", plain(n), d, m.Next, e)
			}
		}
	}
	if count < 1000 {
		t.Errorf("only %d moves", count)
	}
}

// fewActs returns texts of the moves with one or two acts, where the processes p and q have changed places, sorted.
func fewActs(l []api.Move, p, q int) []string {
	var texts []string
	for _, m := range l {
		if len(m.Acts) > 2 {
			continue
		}
		acts, locs := slices.Clone(m.Acts), slices.Clone(m.Next.Locs)
		for k, a := range acts {
			switch a[0] {
			case p:
				acts[k][0] = q
			case q:
				acts[k][0] = p
			}
		}
		locs[p], locs[q] = locs[q], locs[p]
		m.Acts, m.Next.Locs = acts, locs
		texts = append(texts, plain(m))
	}
	slices.Sort(texts)
	return texts
}

// P13.6: if two processes change places, the moves with one or two acts are the same ones.
func TestProcessesChangePlaces(t *testing.T) {
	r := newMaker(5)
	seen := [3]int{}
	for range 1500 {
		n := r.net(4)
		d := r.state(n)
		p, q := r.IntN(len(n.Procs)), r.IntN(len(n.Procs))
		same := fewActs(movesOf(t, n, d), p, p)
		n.Procs[p], n.Procs[q] = n.Procs[q], n.Procs[p]
		d.Locs[p], d.Locs[q] = d.Locs[q], d.Locs[p]
		changed := movesOf(t, n, d)
		if got := fewActs(changed, p, q); !slices.Equal(got, same) {
			t.Fatalf("%s: in %+v with the processes %d and %d exchanged, there are %v, before %v", plain(n), d, p, q, got, same)
		}
		for _, m := range changed {
			if p != q && len(m.Acts) <= 2 {
				seen[len(m.Acts)]++
			}
		}
	}
	if seen[1] < 500 || seen[2] < 200 {
		t.Errorf("too few moves: %v", seen)
	}
}

package minimal

import (
	"slices"
	"testing"

	"foliot/api"
)

// guarded returns a list with the same elements in memory that goes on behind
// them, all of that memory, and a copy of it.
func guarded[T any](l []T, behind T) (list, memory, before []T) {
	memory = append(slices.Clone(l), slices.Repeat([]T{behind}, 40)...)
	return memory[:len(l)], memory, slices.Clone(memory)
}

// overwrite changes a list, with what lies behind its length.
func overwrite[T any](l []T, with T) {
	for i := range l[:cap(l)] {
		l[:cap(l)][i] = with
	}
}

// P4.1, rule R3
func TestReduceKeepsNothing(t *testing.T) {
	m, memory, before := guarded([]api.Limit{1, 1, 1, 11, 1, 11, 6, 6, 1}, 77)
	want := []api.Constraint{says(1, 0, 11), says(2, 0, 6)}
	first := reduce(t, api.Zone{N: 2, M: m})
	second := reduce(t, api.Zone{N: 2, M: m})
	if !slices.Equal(memory, before) {
		t.Fatal("Reduce changes its argument")
	}
	overwrite(second, says(9, 9, 9))
	overwrite(memory, 99)
	if !slices.Equal(first, want) {
		t.Errorf("the result changes with another one, or with the argument: %v", first)
	}
	copy(memory, before)
	if third := reduce(t, api.Zone{N: 2, M: m}); !slices.Equal(third, want) {
		t.Errorf("Reduce has kept something: %v", third)
	}
	invalid := api.Zone{N: 2, M: memory[:10]}
	if l, e := Reduce(invalid); len(l) != 0 || e != api.ErrArg || !slices.Equal(memory, before) {
		t.Errorf("Reduce(%v): %v, %d, and %v", invalid, l, e, memory)
	}
}

// P4.2, rule R3
func TestBuildKeepsNothing(t *testing.T) {
	l, memory, before := guarded([]api.Constraint{says(2, 0, 6), says(1, 0, 11)}, says(7, 7, 7))
	want := []api.Limit{1, 1, 1, 11, 1, 11, 6, 6, 1}
	build := func() []api.Limit {
		z, e := Build(2, l)
		if z.N != 2 || e != api.OK {
			t.Fatalf("Build: %v, %d", z, e)
		}
		return z.M
	}
	first, second := build(), build()
	if !slices.Equal(memory, before) {
		t.Fatal("Build changes its argument")
	}
	overwrite(second, 9)
	overwrite(memory, says(0, 0, 0))
	if !slices.Equal(first, want) {
		t.Errorf("the result changes with another one, or with the argument: %v", first)
	}
	copy(memory, before)
	if third := build(); !slices.Equal(third, want) {
		t.Errorf("Build has kept something: %v", third)
	}
	for _, n := range []int{-1, 1, 11} {
		if z, e := Build(n, l); z.N != 0 || len(z.M) != 0 || e != api.ErrArg || !slices.Equal(memory, before) {
			t.Errorf("Build(%d): %v, %d, and %v", n, z, e, memory)
		}
	}
}

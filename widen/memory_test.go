package widen

import (
	"slices"
	"testing"

	"foliot/api"
)

// guarded returns a list with the same elements in memory that goes on behind
// them, all of that memory, and a copy of it.
func guarded[T any](l []T, behind T) (list, memory, before []T) {
	memory = append(slices.Clone(l), slices.Repeat([]T{behind}, 40)...)
	return memory[:len(l)], memory, slices.Clone(memory)
}

// overwrite changes a list, with what lies behind its length.
func overwrite[T any](l []T, with T) {
	for i := range l[:cap(l)] {
		l[:cap(l)][i] = with
	}
}

// arguments are those of Bounds in memory that goes on behind them, and how it was.
type arguments struct {
	z                  api.Zone
	low, high          []int64
	m, mBefore         []api.Limit
	lows, lowsBefore   []int64
	highs, highsBefore []int64
}

func argumentsOf(z api.Zone, low, high []int64) *arguments {
	a := &arguments{z: api.Zone{N: z.N}}
	a.z.M, a.m, a.mBefore = guarded(z.M, 77)
	a.low, a.lows, a.lowsBefore = guarded(low, -7)
	a.high, a.highs, a.highsBefore = guarded(high, -8)
	return a
}

func (a *arguments) areUnchanged() bool {
	return slices.Equal(a.m, a.mBefore) && slices.Equal(a.lows, a.lowsBefore) && slices.Equal(a.highs, a.highsBefore)
}

// spoil overwrites all of the memory.
func (a *arguments) spoil() {
	overwrite(a.m, -99)
	overwrite(a.lows, -99)
	overwrite(a.highs, -99)
}

// restore makes all of the memory what it was.
func (a *arguments) restore() {
	copy(a.m, a.mBefore)
	copy(a.lows, a.lowsBefore)
	copy(a.highs, a.highsBefore)
}

// checkMemory checks that a call changes and keeps nothing, and that its results are new memory.
func checkMemory(t *testing.T, name string, a *arguments, call func() (api.Zone, api.Errno)) {
	t.Helper()
	first, e := call()
	second, _ := call()
	if !a.areUnchanged() {
		t.Fatalf("%s changes an argument", name)
	}
	want := slices.Clone(first.M)
	overwrite(second.M, 9)
	if !a.areUnchanged() {
		t.Fatalf("the result of %s shares memory with an argument", name)
	}
	a.spoil()
	if !slices.Equal(first.M, want) {
		t.Errorf("the result of %s changes with another one, or with an argument: %v, not %v", name, first.M, want)
	}
	a.restore()
	third, eThird := call()
	if third.N != first.N || !slices.Equal(third.M, want) || eThird != e {
		t.Errorf("%s has kept something: %v, %d; want %v, %d", name, third, eThird, want, e)
	}
}

// P6.1, rule R3: arguments are not changed and not kept, with what lies behind their lengths.
func TestArgumentsAndResults(t *testing.T) {
	for _, c := range []struct {
		z         api.Zone
		low, high []int64
	}{
		{pointZone(t, 1, 7), []int64{3, 3}, []int64{3, 3}},
		{pointZone(t, 1, 7), []int64{9, 9}, []int64{9, 9}}, // stays as it is
		{pointZone(t, 1, 7), []int64{-1, 4}, []int64{5, -1}},
		{pointZone(t), nil, nil},
		{span("[3,5]"), []int64{4}, []int64{2}},
		{pointZone(t, 0, 1, 2, 3, 4, 5, 6, 7, 8, 9), times(10, 5), times(10, 4)},
		{span("[3,5]"), []int64{-2}, []int64{4}}, {span("[3,5]"), []int64{4}, []int64{-2}}, {span("[3,5]"), nil, []int64{4}}, {span("[3,5]"), []int64{4}, []int64{4, 4}},
		{zoneOf(1, 1, 3, none, 1), []int64{4}, []int64{4}}, {zoneOf(2, 1, 1, 1, 5, 1, none, 5, 5, 1), []int64{4, 4}, []int64{4, 4}}, {zoneOf(1, 1, 1, none), []int64{4}, []int64{4}},
	} {
		a := argumentsOf(c.z, c.low, c.high)
		checkMemory(t, "Bounds", a, func() (api.Zone, api.Errno) { return Bounds(a.z, a.low, a.high) })
		checkMemory(t, "Bounds with one list", a, func() (api.Zone, api.Errno) { return Bounds(a.z, a.high, a.high) })
		checkMemory(t, "Greatest", a, func() (api.Zone, api.Errno) { return Greatest(a.z, a.low) })
	}
}

// P6.1, rule R3: an earlier call with other arguments changes nothing.
func TestCallsAreIndependent(t *testing.T) {
	p, q := pointZone(t, 1, 7), span("[3,5]")
	want := greatest(t, p, []int64{3, 3})
	bounds(t, q, []int64{2}, []int64{9})
	Greatest(p, []int64{-2, 3})
	Greatest(api.Zone{}, nil)
	checkGreatest(t, p, []int64{3, 3}, want, api.OK)
}

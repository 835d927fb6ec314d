package federation

import (
	"slices"
	"testing"

	"foliot/api"
)

// guarded is a list in memory that goes on behind it, as the matrices of its zones do.
type guarded struct {
	list, memory []api.Zone
	matrices     [][]api.Limit
	before       []api.Zone
	elements     [][]api.Limit
}

func guard(l []api.Zone) *guarded {
	g := &guarded{}
	for _, z := range l {
		m := append(slices.Clone(z.M), slices.Repeat([]api.Limit{77}, 40)...)
		g.matrices = append(g.matrices, m)
		g.elements = append(g.elements, slices.Clone(m))
		g.memory = append(g.memory, api.Zone{N: z.N, M: m[:len(z.M)]})
	}
	behind := []api.Limit{7}
	g.matrices, g.elements = append(g.matrices, behind), append(g.elements, slices.Clone(behind))
	g.memory = append(g.memory, times(40, zoneOf(7, behind...))...)
	g.before = slices.Clone(g.memory)
	g.list = g.memory[:len(l)]
	return g
}

// isUnchanged tells whether all of the memory is as it was, and in the same places.
func (g *guarded) isUnchanged() bool {
	for i, z := range g.memory {
		if z.N != g.before[i].N || len(z.M) != len(g.before[i].M) || &z.M[0] != &g.before[i].M[0] {
			return false
		}
	}
	return slices.EqualFunc(g.matrices, g.elements, slices.Equal)
}

// overwrite changes all zones of a list and what lies behind.
func overwrite(l []api.Zone) {
	for _, z := range l {
		for i := range z.M[:cap(z.M)] {
			z.M[:cap(z.M)][i] = -99
		}
	}
	for i := range l[:cap(l)] {
		l[:cap(l)][i] = api.Zone{N: -99}
	}
}

// copied returns the same zones in new memory.
func copied(l []api.Zone) []api.Zone {
	var all []api.Zone
	for _, z := range l {
		all = append(all, zoneOf(z.N, slices.Clone(z.M)...))
	}
	return all
}

// checkMemory checks that a call changes and keeps nothing, and that its results are new memory.
func checkMemory(t *testing.T, f function, one, two []api.Zone) {
	t.Helper()
	a, b := guard(one), guard(two)
	first, in, e := f.call(a.list, b.list)
	second, _, _ := f.call(a.list, b.list)
	if !a.isUnchanged() || !b.isUnchanged() {
		t.Fatalf("%s of %v and %v changes an argument", f.name, one, two)
	}
	want := copied(first)
	overwrite(second)
	if !a.isUnchanged() || !b.isUnchanged() {
		t.Fatalf("a result of %s of %v and %v shares memory with an argument", f.name, one, two)
	}
	if !sameLists(first, want) {
		t.Errorf("two results of %s of %v and %v share memory", f.name, one, two)
	}
	overwrite(a.memory)
	overwrite(b.memory)
	if !sameLists(first, want) {
		t.Errorf("the result of %s of %v and %v changes with an argument", f.name, one, two)
	}
	third, inAgain, eAgain := f.call(copied(one), copied(two))
	if !sameLists(third, want) || inAgain != in || eAgain != e {
		t.Errorf("%s of %v and %v has kept something: %v, %v, %d", f.name, one, two, third, inAgain, eAgain)
	}
	for i := range first {
		overwrite(first[i : i+1 : i+1])
		if !sameLists(first[i+1:], want[i+1:]) {
			t.Errorf("zones of one result of %s of %v and %v share memory", f.name, one, two)
		}
	}
}

// P5.2 to P5.7, rule R3: arguments are not changed and not kept, with what lies behind their lengths.
func TestArgumentsAndResults(t *testing.T) {
	boxes := []api.Zone{box(t, 0, 5, 0, 5), box(t, 7, 9, 7, 9), box(t, 0, 5, 5, 8), box(t, 1, 2, 1, 2)}
	for _, f := range functions([]api.Ratio{r(1, 2)}) {
		for _, lists := range [][2]string{
			{"[0,5] [7,9] [5,8] [1,2]", "[2,3] [20,21]"}, {"[0,5]", "[6,7]"}, {"[0,5] [0,5] (5,6]", ""}, {"", "[0,5]"}, {"[0,5]", "[0,5]"}, {"[3,4] [0,1] [8,9]", "[20,21]"},
		} {
			checkMemory(t, f, spans(lists[0]), spans(lists[1]))
		}
		checkMemory(t, f, append(spans("[0,5]"), all(2)), spans("[6,7]"))
	}
	for _, f := range functions([]api.Ratio{r(1, 2), r(1, 3)}) {
		checkMemory(t, f, boxes, []api.Zone{box(t, 2, 3, 2, 3), box(t, 8, 8, 8, 8)})
		checkMemory(t, f, []api.Zone{box(t, 1, 2, 3, 4), tower(t, most)}, []api.Zone{made(t, 2, says(1, 0, weak(5)))})
	}
	for _, f := range functions(nil) {
		checkMemory(t, f, []api.Zone{all(0), all(0)}, nil)
		checkMemory(t, f, []api.Zone{shifted(t, 0), shifted(t, 1)}, nil)
		checkMemory(t, f, []api.Zone{{N: 1, M: []api.Limit{1}}}, nil)
	}
}

// P5.1, rule R3
func TestCheckChangesNothing(t *testing.T) {
	for _, l := range [][]api.Zone{spans("[0,5] [7,9]"), {all(1), all(2)}, times(api.MaxZones+1, all(0))} {
		g := guard(l)
		Check(g.list)
		if !g.isUnchanged() {
			t.Errorf("Check of %d zones changes its argument", len(l))
		}
	}
}

// P5.6, rule R3
func TestHasChangesNoPoint(t *testing.T) {
	memory := []api.Ratio{r(1, 2), r(1, 3), r(7, 9), r(7, 9)}
	before := slices.Clone(memory)
	for range 2 {
		in, e := Has([]api.Zone{box(t, 5, 6, 5, 6), all(2)}, memory[:2])
		checkBool(t, in, e, true, api.OK, "Has")
	}
	if !slices.Equal(memory, before) {
		t.Errorf("Has changes its point: %v", memory)
	}
}

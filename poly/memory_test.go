package poly

import (
	"fmt"
	"slices"
	"testing"

	"foliot/api"
)

// guarded returns a list with the same elements in memory that goes on behind
// them, and all of that memory.
func guarded[T any](l []T, behind T) (list, memory []T) {
	memory = append(slices.Clone(l), slices.Repeat([]T{behind}, 40)...)
	return memory[:len(l)], memory
}

// overwrite changes a list, with what lies behind its length.
func overwrite[T any](l []T, with T) {
	for i := range l[:cap(l)] {
		l[:cap(l)][i] = with
	}
}

// arguments are those of all functions, in memory that goes on behind them.
type arguments struct {
	n       int
	a, b    []api.Line
	x       api.Line
	p       []api.Ratio
	factors []int64
	lines   [][]api.Line
	numbers [][]int64
	ratios  []api.Ratio
}

func argumentsOf(n int, a, b []api.Line, x api.Line, p []api.Ratio, factors []int64) *arguments {
	c := &arguments{n: n}
	c.a, c.b = c.list(a), c.list(b)
	c.x = c.list(list(x))[0]
	c.p, c.ratios = guarded(p, r(-7, 1))
	c.factors = c.list(list(most(0, factors...)))[0].A
	return c
}

// list returns lines in memory that goes on behind them, and behind the coefficients of each one.
func (c *arguments) list(l []api.Line) []api.Line {
	made, memory := guarded(l, less(-8, -9))
	c.lines = append(c.lines, memory)
	for k, x := range made {
		var numbers []int64
		made[k].A, numbers = guarded(x.A, -6)
		c.numbers = append(c.numbers, numbers)
	}
	return made
}

// text shows all of the memory, so that any change can be seen.
func (c *arguments) text() string { return fmt.Sprint(c.lines, c.numbers, c.ratios) }

// spoil overwrites all of the memory.
func (c *arguments) spoil() {
	for _, numbers := range c.numbers {
		overwrite(numbers, -99)
	}
	for _, l := range c.lines {
		overwrite(l, less(-99, 99, 99))
	}
	overwrite(c.ratios, r(-99, 1))
}

// results are all that the functions return.
type results struct {
	without []api.Line
	minus   [][]api.Line
	point   []api.Ratio
	others  string
}

func (c *arguments) results() results {
	var made results
	var e [9]api.Errno
	e[0] = Check(c.n, c.a)
	made.without, e[1] = Without(c.n, c.a, c.n-1)
	empty, e2 := Empty(c.n, c.a)
	implies, e3 := Implies(c.n, c.a, c.x)
	includes, e4 := Includes(c.n, c.a, c.b)
	has, e5 := Has(c.n, c.a, c.p)
	made.point, e[6] = Point(c.n, c.a)
	made.minus, e[7] = Minus(c.n, c.a, c.b)
	low, attained, e8 := Least(c.n, c.a, c.factors)
	e[2], e[3], e[4], e[5], e[8] = e2, e3, e4, e5, e8
	made.others = fmt.Sprint(empty, implies, includes, has, low, attained, e)
	return made
}

func (made results) text() string {
	return fmt.Sprint(made.without, made.minus, made.point, made.others)
}

// spoil overwrites all memory of the results, with what lies behind their lengths.
func (made results) spoil() {
	for _, l := range append(slices.Clone(made.minus), made.without) {
		for _, x := range l {
			overwrite(x.A, 55)
		}
		overwrite(l, less(-55, 55, 55))
	}
	overwrite(made.minus, nil)
	overwrite(made.point, r(55, 1))
}

// someArguments returns arguments with results of all kinds.
func someArguments() []*arguments {
	square := list(most(4, 1, 0), most(0, -1, 0), less(4, 0, 1), less(0, 0, -1))
	inner := list(most(3, 1, 0), most(-1, -1, 0), most(3, 0, 1), most(-2, 0, -2))
	return []*arguments{
		argumentsOf(2, square, inner, most(9, 1, 1), at(1, 2), []int64{-1, 2}),
		argumentsOf(2, inner, square, most(2, 1, 1), at(0, 2), []int64{1, 1}),
		argumentsOf(2, with(square, square...), with(inner, less(1, 1, 1)), less(0, 0, 0), at(1, 1), []int64{0, 0}),
		argumentsOf(3, list(most(4, 1, 1, 1), most(2, 2, -2, 4), less(-1, 0, -1, -1)), list(most(6, 3, 0, 0), less(9, 0, 1, 1)), most(7, 7, 0, 0), at(1, 1, 1), []int64{-1, 0, 0}),
		argumentsOf(1, nil, list(most(6, 2)), most(1, 1), at(5), []int64{0}),
		argumentsOf(0, nil, list(less(0)), most(0), nil, nil),
		argumentsOf(5, nil, list(most(1, 1, 1, 1, 1, 1), most(2, 0, 0, 0, 0, 2)), most(0, 0, 0, 0, 0, 1), at(1, 2, 3, 4, 5), make([]int64, 5)),
		argumentsOf(2, list(less(0, 1, 1), less(0, -1, -1)), square, most(1, 1, 1), at(1, 1), []int64{1, 1}), // an empty set
		argumentsOf(2, tooWide(), square, most(1, 1, 1), at(1, 1), []int64{1, 1}),                            // errors
		argumentsOf(1, list(most(0, 1, 2)), list(most(0)), most(0, 1, 2), at(1, 2), []int64{1, 2}),
	}
}

// P7.1 to P7.8, rule R3: arguments are not changed, with what lies behind their
// lengths, and results share memory with nothing.
func TestArgumentsAndResults(t *testing.T) {
	for _, c := range someArguments() {
		before := c.text()
		first, second := c.results(), c.results()
		if c.text() != before {
			t.Fatalf("arguments are changed: %s, not %s", c.text(), before)
		}
		want := first.text()
		second.spoil()
		if c.text() != before {
			t.Fatalf("results share memory with the arguments %s", before)
		}
		c.spoil()
		if first.text() != want {
			t.Errorf("results change with others, or with arguments: %s, not %s", first.text(), want)
		}
	}
}

// P7.2, P7.7, rule R3: results share no memory with each other: each line has its own.
func TestLinesHaveTheirOwnMemory(t *testing.T) {
	for _, c := range someArguments() {
		made := c.results()
		seen := map[*int64]bool{}
		for _, l := range append(slices.Clone(made.minus), made.without) {
			for _, x := range l {
				for k := range x.A[:cap(x.A)] {
					place := &x.A[:cap(x.A)][k]
					if seen[place] {
						t.Errorf("a line of %v and another one share memory", l)
					}
					seen[place] = true
				}
			}
		}
		for k, l := range made.minus {
			others := fmt.Sprint(made.minus[k+1:])
			overwrite(l, less(-55, 55, 55))
			if fmt.Sprint(made.minus[k+1:]) != others {
				t.Errorf("the part %d of Minus shares memory with another one", k)
			}
		}
	}
}

// P7.1 to P7.8, rule R3: nothing of an earlier call is left, whatever has become of its arguments and results.
func TestCallsAreIndependent(t *testing.T) {
	var want []string
	for _, c := range someArguments() {
		want = append(want, c.results().text())
	}
	for range 2 {
		for k, c := range someArguments() {
			made := c.results()
			if made.text() != want[k] {
				t.Errorf("%s: %s, want %s", c.text(), made.text(), want[k])
			}
			made.spoil()
			c.spoil()
		}
	}
}

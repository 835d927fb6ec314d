package eval

import (
	"math/rand/v2"
	"slices"
	"strconv"
	"strings"
	"testing"

	"foliot/api"
	"foliot/code"
)

// generator writes texts of functions and expressions without static errors,
// for the given names v and w.
type generator struct {
	*rand.Rand
	own      []string // the parameters and local variables that are known here
	callable []string // the functions that may be called, in the order in which they are made
	counts   []int    // how many parameters each of them has
}

func newGenerator(seed uint64) *generator {
	return &generator{Rand: rand.New(rand.NewPCG(seed, 10))}
}

func one[T any](g *generator, l ...T) T { return l[g.IntN(len(l))] }

func (g *generator) integer() string {
	n := one(g, g.Int64N(4), g.Int64N(4), g.Int64N(4), g.Int64N(100), greatest-g.Int64N(3), 46341, 1<<30)
	return strconv.FormatInt(n*one[int64](g, 1, 1, -1), 10)
}

func (g *generator) name() string { return one(g, append([]string{"v", "w"}, g.own...)...) }

// exp writes an expression that is at most so deep.
func (g *generator) exp(deep int) string {
	if deep == 1 {
		return one(g, g.integer(), g.name(), g.name())
	}
	switch choice := g.IntN(12); {
	case choice < 2:
		return g.exp(1)
	case choice == 2:
		return one(g, "!", "-") + "(" + g.exp(deep-1) + ")"
	case choice == 3:
		return "(" + g.exp(deep-1) + " ? " + g.exp(deep-1) + " : " + g.exp(deep-1) + ")"
	case choice < 7 && len(g.callable) > 0:
		return g.call(deep)
	}
	sign := one(g, "+", "-", "+", "-", "*", "/", "%", "<", "<=", "==", "!=", ">=", ">", "&&", "||")
	return "(" + g.exp(deep-1) + " " + sign + " " + g.exp(deep-1) + ")"
}

func (g *generator) call(deep int) string {
	k := g.IntN(len(g.callable))
	var args []string
	for range g.counts[k] {
		args = append(args, g.exp(deep-1))
	}
	return g.callable[k] + "(" + strings.Join(args, ", ") + ")"
}

// list writes statements, whose local variables are forgotten behind it.
func (g *generator) list(deep int) string {
	before := len(g.own)
	text := ""
	for range g.IntN(4) {
		text += g.statement(deep) + " "
	}
	g.own = g.own[:before]
	return text
}

func (g *generator) statement(deep int) string {
	choice := g.IntN(9)
	switch {
	case choice < 3 && len(g.own) < 8:
		value := g.exp(2)
		free := slices.DeleteFunc([]string{"a", "b", "c", "d", "e", "f", "g", "h"}, func(s string) bool { return slices.Contains(g.own, s) })
		g.own = append(g.own, one(g, free...))
		return "var " + g.own[len(g.own)-1] + " = " + value + ";"
	case choice < 5 && len(g.own) > 0:
		return one(g, g.own...) + " = " + g.exp(3) + ";"
	case choice < 7 && deep > 1:
		text := "if (" + g.exp(2) + ") { " + g.list(deep-1) + "}"
		if g.IntN(2) == 0 {
			text += " else { " + g.list(deep-1) + "}"
		}
		return text
	case choice < 8 && deep > 1 && len(g.own) > 0:
		return g.loop(deep)
	case choice == 8 && g.IntN(3) == 0:
		return "return " + g.exp(2) + ";"
	}
	return "if (" + g.exp(1) + ") { }"
}

// loop writes a loop that ends, if nothing else happens to its variable.
func (g *generator) loop(deep int) string {
	own := one(g, g.own...)
	list := g.list(deep - 1)
	return "while (" + one(g, own+" > 0", own, own+" % 7") + ") { " + own + " = " + own + " - 1; " + list + "}"
}

// functions writes functions that may call those before them, and that may be called then.
func (g *generator) functions(count int) string {
	g.callable, g.counts = nil, nil
	text := ""
	for k := range count {
		g.own = slices.Clone([]string{"a", "b", "f", "g"}[:g.IntN(5)])
		head := "func " + "fghk"[k:k+1] + "(" + strings.Join(g.own, ", ") + ") { "
		params := len(g.own)
		for range g.IntN(5) {
			head += g.statement(3) + " "
		}
		text += head + "return " + g.exp(3) + "; } "
		g.callable, g.counts = append(g.callable, "fghk"[k:k+1]), append(g.counts, params)
		g.own = nil
	}
	return text
}

// program returns an expression and functions that are small, and their texts.
func (g *generator) program(t *testing.T) (api.Exp, []api.Func, string) {
	for {
		more := g.functions(g.IntN(5))
		text := g.exp(4)
		x, at, e := code.ParseExp(text)
		l, moreAt, moreE := code.ParseFuncs(more)
		switch {
		case e == api.OK && moreE == api.OK:
			return x, l, text + " with " + more
		case e != api.OK && e != api.ErrLong || moreE != api.OK && moreE != api.ErrLong:
			t.Fatalf("%q, %q: %d, %d; %d, %d", text, more, at, e, moreAt, moreE)
		}
	}
}

// values returns values for v and w.
func (g *generator) values() []int64 {
	return []int64{g.Int64N(20), one(g, 0, -1, 2, greatest, -greatest, g.Int64N(2*greatest)-greatest)}
}

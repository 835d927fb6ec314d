package network_test

import (
	"math/rand/v2"
	"strconv"
	"strings"

	"foliot/api"
)

// writer writes the tokens of models, each in one of the ways in which it can be written.
type writer struct {
	*rand.Rand
	tokens []string
}

func newWriter(seed uint64) *writer { return &writer{Rand: rand.New(rand.NewPCG(seed, 11))} }

func one[T any](w *writer, l ...T) T { return l[w.IntN(len(l))] }

func (w *writer) add(l ...string) { w.tokens = append(w.tokens, l...) }

func (w *writer) number(n int64) {
	text := strconv.FormatInt(n, 10)
	if digits, isNegative := strings.CutPrefix(text, "-"); isNegative {
		w.add("-", digits)
		return
	}
	w.add(text)
}

// list writes elements of a list with signs between them.
func list[T any](w *writer, l []T, sign string, write func(x T)) {
	for k, x := range l {
		if k > 0 {
			w.add(sign)
		}
		write(x)
	}
}

func (w *writer) name(s string) { w.add(s) }

// model returns the tokens of a model.
func (w *writer) model(m api.Model) []string {
	w.tokens = nil
	w.add("model", m.Name, ";")
	w.declarations(m)
	for _, f := range m.Funcs {
		w.add("func", f.Name, "(")
		list(w, f.Params, ",", w.name)
		w.add(")")
		w.block(f.Body)
	}
	for _, p := range m.Procs {
		w.add("process", p.Name, "init", p.Init, "{")
		list(w, p.Locs, ";", w.location)
		if len(p.Locs) > 0 {
			w.add(";")
		}
		for _, x := range p.Edges {
			w.edge(x)
		}
		w.add("}")
	}
	return w.tokens
}

// declarations writes clocks, variables and channels behind each other or between each other.
func (w *writer) declarations(m api.Model) {
	for len(m.Clocks)+len(m.Vars)+len(m.Chans) > 0 {
		switch sort := w.IntN(3); {
		case sort == 0 && len(m.Clocks) > 0:
			n := 1 + w.IntN(len(m.Clocks))
			w.add("clock")
			list(w, m.Clocks[:n], ",", w.name)
			m.Clocks = m.Clocks[n:]
		case sort == 1 && len(m.Vars) > 0:
			w.add("var", m.Vars[0].Name, "in")
			w.number(m.Vars[0].Low)
			w.add("..")
			w.number(m.Vars[0].High)
			w.add("=")
			w.number(m.Vars[0].Init)
			m.Vars = m.Vars[1:]
		case sort == 2 && len(m.Chans) > 0:
			m.Chans = m.Chans[w.channels(m.Chans):]
		default:
			continue
		}
		w.add(";")
	}
}

// channels writes some channels of a sort, and returns how many.
func (w *writer) channels(l []api.Chan) int {
	sort := l[0]
	if sort.Broadcast {
		w.add("broadcast")
	}
	if sort.Urgent {
		w.add("urgent")
	}
	w.add("chan", sort.Name)
	for n, c := range l[1:] {
		if c.Broadcast != sort.Broadcast || c.Urgent != sort.Urgent || w.IntN(2) == 0 {
			return n + 1
		}
		w.add(",", c.Name)
	}
	return len(l)
}

func (w *writer) location(l api.Loc) {
	w.add("loc", l.Name)
	if l.Kind > 0 {
		w.add([]string{"urgent", "committed"}[l.Kind-1])
	}
	w.tests("inv", l.Inv)
	w.numbered("rate", l.Rate)
}

// numbered writes a part with a number; one with 0 may be left out.
func (w *writer) numbered(word string, n int64) {
	if n != 0 || w.IntN(8) == 0 {
		w.add(word)
		w.number(n)
	}
}

// tests writes two tests as one where that is possible.
func (w *writer) tests(word string, l []api.Test) {
	for len(l) > 0 {
		w.add(word, l[0].Clock)
		word = "&&"
		sign, n := map[api.Test]string{{}: "<=", {Strict: true}: "<", {Lower: true}: ">=", {Lower: true, Strict: true}: ">"}[api.Test{Lower: l[0].Lower, Strict: l[0].Strict}], 1
		if len(l) > 1 && w.IntN(2) == 0 && sign == "<=" && l[1] == (api.Test{Clock: l[0].Clock, Lower: true, C: l[0].C}) {
			sign, n = "==", 2
		}
		w.add(sign)
		w.number(l[0].C)
		l = l[n:]
	}
}

func (w *writer) edge(x api.Edge) {
	w.add("edge", x.From, "->", x.To)
	w.tests("when", x.Tests)
	if x.Cond.Kind != 0 {
		w.add("if")
		w.exp(x.Cond)
	}
	if x.Chan != "" {
		w.add("sync", x.Chan, map[bool]string{true: "!", false: "?"}[x.Send])
	}
	if len(x.Sets) > 0 {
		w.add("do")
	}
	list(w, x.Sets, ",", func(s api.Assign) { w.add(s.Name, "="); w.exp(s.Val) })
	if len(x.Clears) > 0 {
		w.add("reset")
	}
	list(w, x.Clears, ",", func(c api.Clear) { w.add(c.Clock, "="); w.number(c.To) })
	w.numbered("cost", x.Cost)
	w.numbered("kind", int64(x.Kind))
	w.add(";")
}

var signOf = map[int]string{
	api.ExNeg: "-", api.ExNot: "!", api.ExAdd: "+", api.ExSub: "-", api.ExMul: "*", api.ExDiv: "/", api.ExMod: "%",
	api.ExLt: "<", api.ExLe: "<=", api.ExEq: "==", api.ExNe: "!=", api.ExGe: ">=", api.ExGt: ">", api.ExAnd: "&&", api.ExOr: "||",
}

func (w *writer) exp(x api.Exp) {
	switch {
	case x.Kind == api.ExInt:
		w.number(x.Int)
	case x.Kind == api.ExName:
		w.add(x.Name)
	case x.Kind == api.ExCall:
		w.add(x.Name, "(")
		list(w, x.Args, ",", w.exp)
		w.add(")")
	case x.Kind == api.ExIf:
		w.part(x.Args[0])
		w.add("?")
		w.part(x.Args[1])
		w.add(":")
		w.part(x.Args[2])
	case len(x.Args) == 1:
		w.add(signOf[x.Kind])
		w.part(x.Args[0])
	default:
		w.part(x.Args[0])
		w.add(signOf[x.Kind])
		w.part(x.Args[1])
	}
}

// part writes a part of an operation, which needs no parentheses if it is a name.
func (w *writer) part(x api.Exp) {
	if x.Kind == api.ExName && w.IntN(4) > 0 {
		w.add(x.Name)
		return
	}
	w.add("(")
	w.exp(x)
	w.add(")")
}

func (w *writer) block(l []api.Stmt) {
	w.add("{")
	for _, s := range l {
		w.statement(s)
	}
	w.add("}")
}

func (w *writer) statement(s api.Stmt) {
	switch s.Kind {
	case api.StVar, api.StSet:
		if s.Kind == api.StVar {
			w.add("var")
		}
		w.add(s.Name, "=")
		w.exp(s.Val)
		w.add(";")
	case api.StReturn:
		w.add("return")
		w.exp(s.Val)
		w.add(";")
	default:
		w.add(map[int]string{api.StIf: "if", api.StWhile: "while"}[s.Kind], "(")
		w.exp(s.Val)
		w.add(")")
		w.block(s.Body)
		if len(s.Else) > 0 {
			w.add("else")
			w.block(s.Else)
		}
	}
}

// spread returns a text of tokens with random separators between them, as few
// as can be if they may stand together.
func (w *writer) spread(tokens []string) string {
	var text strings.Builder
	before := ""
	for _, token := range tokens {
		_, both := tokensOf(before + token)
		mayTouch := before == "" || len(both) == 3 && both[0] == before && both[1] == token
		if !mayTouch || w.IntN(4) == 0 {
			text.WriteString(one(w, " ", "\t", "\n", "\r\n", " // } remark \xff\n", "  "))
		}
		text.WriteString(token)
		before = token
	}
	return text.String()
}

package network_test

import (
	"fmt"
	"strings"
	"testing"

	"foliot/api"
	"foliot/code"
	"foliot/network"
)

func checkPrint(t *testing.T, m api.Model, want string) {
	t.Helper()
	if text, e := network.Print(m); text != want || e != api.OK {
		t.Errorf("Print of %s: %q, %d; want %q", short(m), text, e, want)
	}
}

// P11.3: the examples of the chapter, models without parts, and one with all of them.
func TestPrint(t *testing.T) {
	checkPrint(t, full(), fullText)
	checkPrint(t, api.Model{Name: "m"}, "model m;\n")
	checkPrint(t, api.Model{Name: "m", Clocks: []string{"x"}}, "model m;\nclock x;\n")
	checkPrint(t, api.Model{Name: "m", Funcs: []api.Func{{Name: "f"}}}, "model m;\nfunc f() {\n}\n")
	checkPrint(t, api.Model{Name: "m", Vars: []api.Var{{Name: "v", Low: -1 << 31, High: 1 << 31, Init: -7}}}, "model m;\nvar v in -2147483648..2147483648 = -7;\n")
	checkPrint(t, ofProcess(nil, nil), "model m;\nprocess P init A {\n}\n")
	m, _, _ := network.Parse("model m; clock x; process P init A { loc A inv x <= 2; edge A -> A when x == 2 reset x = 0; }")
	checkPrint(t, m, "model m;\nclock x;\nprocess P init A {\n\tloc A inv x <= 2;\n\tedge A -> A when x <= 2 && x >= 2 reset x = 0;\n}\n")
}

// P11.3: each sort of channel has a line of its own.
func TestPrintChannels(t *testing.T) {
	checkPrint(t, api.Model{Name: "m", Chans: []api.Chan{
		{Name: "a"}, {Name: "b"}, {Name: "c", Urgent: true}, {Name: "d", Broadcast: true}, {Name: "e", Broadcast: true, Urgent: true}, {Name: "f"}}},
		"model m;\nchan a;\nchan b;\nurgent chan c;\nbroadcast chan d;\nbroadcast urgent chan e;\nchan f;\n")
}

// P11.3: the parts of a location and of an edge, if they are not zero.
func TestPrintParts(t *testing.T) {
	test, five := api.Test{Clock: "x", C: -5}, api.Exp{Kind: api.ExInt, Int: 5}
	strict := api.Test{Clock: "y", Strict: true, Lower: true, C: 3}
	for want, l := range map[string]api.Loc{
		"loc A;":                              {Name: "A", Inv: []api.Test{}},
		"loc A urgent;":                       {Name: "A", Kind: api.LocUrgent},
		"loc A committed;":                    {Name: "A", Kind: api.LocCommitted},
		"loc A inv x <= -5;":                  {Name: "A", Inv: []api.Test{test}},
		"loc A inv x <= -5 && y > 3;":         {Name: "A", Inv: []api.Test{test, strict}},
		"loc A inv y < 0 && z >= 2147483648;": {Name: "A", Inv: []api.Test{{Clock: "y", Strict: true}, {Clock: "z", Lower: true, C: 1 << 31}}},
		"loc A rate 3;":                       {Name: "A", Rate: 3},
		"loc A rate -2147483648;":             {Name: "A", Rate: -1 << 31},
		"loc A committed inv y > 3 rate 1;":   {Name: "A", Kind: api.LocCommitted, Inv: []api.Test{strict}, Rate: 1},
	} {
		checkPrint(t, ofProcess([]api.Loc{l}, nil), "model m;\nprocess P init A {\n\t"+want+"\n}\n")
	}
	for want, x := range map[string]api.Edge{
		"edge A -> B;":                                  {Tests: []api.Test{}, Cond: api.Exp{Args: []api.Exp{}}, Sets: []api.Assign{}, Clears: []api.Clear{}},
		"edge A -> B when x <= -5 && y > 3;":            {Tests: []api.Test{test, strict}},
		"edge A -> B if 5;":                             {Cond: five},
		"edge A -> B if 0;":                             {Cond: api.Exp{Kind: api.ExInt}},
		"edge A -> B if (a < b) == c ? -(1) : f(a, b);": {Cond: expOf(t, "(a<b)==c?-(1):f(a,b)")},
		"edge A -> B sync a!;":                          {Chan: "a", Send: true},
		"edge A -> B sync a?;":                          {Chan: "a"},
		"edge A -> B do v = 5;":                         {Sets: []api.Assign{{Name: "v", Val: five}}},
		"edge A -> B do v = 5, w = v + 1;":              {Sets: []api.Assign{{Name: "v", Val: five}, {Name: "w", Val: expOf(t, "v+1")}}},
		"edge A -> B reset x = 0, y = -1;":              {Clears: []api.Clear{{Clock: "x"}, {Clock: "y", To: -1}}},
		"edge A -> B cost 1;":                           {Cost: 1},
		"edge A -> B cost -1 kind -2;":                  {Cost: -1, Kind: -2},
		"edge A -> B kind 2147483648;":                  {Kind: 1 << 31},
	} {
		x.From, x.To = "A", "B"
		checkPrint(t, ofProcess(nil, []api.Edge{x}), "model m;\nprocess P init A {\n\t"+want+"\n}\n")
	}
}

// words returns the words of a part with blanks in front, or nothing if there are none.
func words(before string, l []string, sign string) string {
	if len(l) == 0 {
		return ""
	}
	return before + strings.Join(l, sign)
}

func texts[T any](l []T, text func(x T) string) []string {
	var made []string
	for _, x := range l {
		made = append(made, text(x))
	}
	return made
}

func nonZero(word string, n int64) string {
	if n == 0 {
		return ""
	}
	return fmt.Sprint(" ", word, " ", n)
}

// byWords returns the canonical text as the chapter describes it, part by part.
func byWords(m api.Model) string {
	exp := func(x api.Exp) string { text, _ := code.PrintExp(x); return text }
	test := func(x api.Test) string {
		sign := map[[2]bool]string{{false, false}: "<=", {false, true}: "<", {true, false}: ">=", {true, true}: ">"}[[2]bool{x.Lower, x.Strict}]
		return fmt.Sprint(x.Clock, " ", sign, " ", x.C)
	}
	text := "model " + m.Name + ";\n"
	if len(m.Clocks) > 0 {
		text += "clock " + strings.Join(m.Clocks, ", ") + ";\n"
	}
	for _, v := range m.Vars {
		text += fmt.Sprintf("var %s in %d..%d = %d;\n", v.Name, v.Low, v.High, v.Init)
	}
	for _, c := range m.Chans {
		text += map[bool]string{true: "broadcast "}[c.Broadcast] + map[bool]string{true: "urgent "}[c.Urgent] + "chan " + c.Name + ";\n"
	}
	funcs, _ := code.PrintFuncs(m.Funcs)
	text += funcs
	for _, p := range m.Procs {
		text += fmt.Sprintf("process %s init %s {\n", p.Name, p.Init)
		for _, l := range p.Locs {
			kind := []string{"", " urgent", " committed"}[l.Kind]
			text += fmt.Sprintf("\tloc %s%s%s%s;\n", l.Name, kind, words(" inv ", texts(l.Inv, test), " && "), nonZero("rate", l.Rate))
		}
		for _, x := range p.Edges {
			text += fmt.Sprintf("\tedge %s -> %s%s", x.From, x.To, words(" when ", texts(x.Tests, test), " && "))
			if x.Cond.Kind != 0 {
				text += " if " + exp(x.Cond)
			}
			if x.Chan != "" {
				text += " sync " + x.Chan + map[bool]string{true: "!", false: "?"}[x.Send]
			}
			text += words(" do ", texts(x.Sets, func(s api.Assign) string { return s.Name + " = " + exp(s.Val) }), ", ")
			text += words(" reset ", texts(x.Clears, func(c api.Clear) string { return fmt.Sprint(c.Clock, " = ", c.To) }), ", ")
			text += nonZero("cost", x.Cost) + nonZero("kind", int64(x.Kind)) + ";\n"
		}
		text += "}\n"
	}
	return text
}

// P11.3: random models, by the chapter's words.
func TestPrintByWords(t *testing.T) {
	w := newWriter(4)
	for range 5000 {
		m := w.anyModel()
		checkPrint(t, m, byWords(m))
	}
}

// P11.3, P11.4: a canonical text may have more bytes than Parse takes.
func TestPrintLongTexts(t *testing.T) {
	edge := full().Procs[0].Edges[0]
	edge.Sets = repeated(16, edge.Sets[0])
	p := api.Proc{Name: "P", Init: "L", Edges: repeated(60, edge)}
	m := api.Model{Name: "m", Procs: []api.Proc{p, p, p, p, p, p}}
	want := byWords(m)
	if len(want) <= api.MaxText {
		t.Fatalf("the text has only %d bytes", len(want))
	}
	checkPrint(t, m, want)
	parseFails(t, want, 0, api.ErrLong)
}

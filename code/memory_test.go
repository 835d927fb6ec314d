package code

import (
	"fmt"
	"testing"

	"foliot/api"
)

// someTexts are expressions, functions and texts that are neither.
func someTexts() []string {
	return []string{
		"", "a", "f(a, b, -1, g())", "a ? b + 1 : !c - -d", "a +", "f(1, 2, 3, 4, 5)", "@",
		"func f(a, b) { var c = a; if (c) { c = 1; } else { return f(1); } while (!c) { c = c + 1; } return c; } func g() { }", "func f() { a",
	}
}

// results calls all functions with a text, and those that take a tree with what they have read.
type results struct {
	exps  []api.Exp
	funcs []api.Func
	texts string
}

func resultsOf(text string) *results {
	made := &results{}
	x, at1, e1 := ParseExp(text)
	y, at2, e2 := ReadExp(text, 0)
	l, at3, e3 := ParseFuncs(text)
	f, at4, e4 := ReadFunc(text, 0)
	made.exps = []api.Exp{x, y}
	made.funcs = append(l, f)
	before := fmt.Sprint(x, y, l, f)
	s1, e5 := PrintExp(y)
	s2, e6 := PrintFuncs(l)
	made.texts = fmt.Sprint(at1, at2, at3, at4, s1, s2, CheckExp(x), CheckFuncs(l), e1, e2, e3, e4, e5, e6)
	if fmt.Sprint(x, y, l, f) != before {
		made.texts = "arguments are changed"
	}
	return made
}

func (made *results) text() string { return fmt.Sprint(made.exps, made.funcs, made.texts) }

// eachList calls the functions with each list in the results, with what lies behind its length.
func (made *results) eachList(exps func(l []api.Exp), stmts func(l []api.Stmt), names func(l []string)) {
	var inExps func(l []api.Exp)
	inExps = func(l []api.Exp) {
		for _, x := range l {
			inExps(x.Args)
		}
		exps(l[:cap(l)])
	}
	var inStmts func(l []api.Stmt)
	inStmts = func(l []api.Stmt) {
		for _, s := range l {
			inExps(s.Val.Args)
			inStmts(s.Body)
			inStmts(s.Else)
		}
		stmts(l[:cap(l)])
	}
	inExps(made.exps)
	for _, f := range made.funcs {
		names(f.Params[:cap(f.Params)])
		inStmts(f.Body)
	}
}

// spoil overwrites all memory of the results.
func (made *results) spoil() {
	made.eachList(
		func(l []api.Exp) { overwrite(l, num(55)) },
		func(l []api.Stmt) { overwrite(l, gives(num(55))) },
		func(l []string) { overwrite(l, "spoilt") })
}

func overwrite[T any](l []T, x T) {
	for k := range l {
		l[k] = x
	}
}

// claim counts the places of a list that another one has already.
func claim[T any](known map[*T]bool, shared *int) func(l []T) {
	return func(l []T) {
		for k := range l {
			if known[&l[k]] {
				*shared++
			}
			known[&l[k]] = true
		}
	}
}

// P8.2 to P8.4, rule R3: arguments are not changed, and no two lists of results share memory.
func TestResultsHaveTheirOwnMemory(t *testing.T) {
	for _, text := range someTexts() {
		shared := 0
		made := resultsOf(text)
		made.eachList(claim(map[*api.Exp]bool{}, &shared), claim(map[*api.Stmt]bool{}, &shared), claim(map[*string]bool{}, &shared))
		if shared > 0 || made.texts == "arguments are changed" {
			t.Errorf("of the results for %q, %d places are shared: %s", text, shared, made.texts)
		}
	}
}

// P8.1 to P8.4, rules R3 and R6: nothing of an earlier call is left, whatever has become of its results.
func TestCallsAreIndependent(t *testing.T) {
	var want []string
	for _, text := range someTexts() {
		want = append(want, resultsOf(text).text())
	}
	for range 2 {
		for k, text := range someTexts() {
			made, kept := resultsOf(text), resultsOf(text)
			if made.text() != want[k] {
				t.Errorf("%q: %s, want %s", text, made.text(), want[k])
			}
			made.spoil()
			if kept.text() != want[k] {
				t.Errorf("%q: results change with others", text)
			}
		}
	}
}

// P8.1, P8.4, rule R3: a tree that is given is not changed, with what lies behind the lengths of its lists.
func TestTreesAreNotChanged(t *testing.T) {
	args := []api.Exp{name("a"), exp(api.ExNeg, num(1)), num(7), {}}
	body := []api.Stmt{gives(call("f", args[:2]...)), choose(num(1), nil, nil), {Kind: 77}}
	l := []api.Func{function("f", []string{"a", "b", "-"}[:2], body[:2]...), {Name: "+"}}
	before := fmt.Sprint(args, body, l, l[0].Params[:3])
	for range 2 {
		checkErrno(t, "a tree", "CheckExp", CheckExp(call("f", args[:2]...)), api.OK)
		checkErrno(t, "a tree", "CheckFuncs", CheckFuncs(l[:1]), api.OK)
		text, e := PrintExp(call("f", args[:2]...))
		checkText(t, "a tree", text, e, "f(a, -(1))", api.OK)
		text, e = PrintFuncs(l[:1])
		checkText(t, "a tree", text, e, "func f(a, b) {\n\treturn f(a, -(1));\n\tif (1) {\n\t}\n}\n", api.OK)
		if after := fmt.Sprint(args, body, l, l[0].Params[:3]); after != before {
			t.Fatalf("the tree is changed: %s, not %s", after, before)
		}
	}
}

// P8.4, rule R4: nil and empty lists are the same.
func TestEmptyLists(t *testing.T) {
	none := []api.Stmt{}
	with := []api.Func{{Name: "f", Params: []string{}, Body: none}, {Name: "g", Params: []string{}, Body: []api.Stmt{
		{Kind: api.StIf, Val: api.Exp{Kind: api.ExCall, Name: "f", Args: []api.Exp{}}, Body: none, Else: none},
		{Kind: api.StReturn, Val: api.Exp{Kind: api.ExInt, Args: []api.Exp{}}, Body: none, Else: none},
	}}}
	text, e := PrintFuncs(with)
	checkText(t, with, text, e, "func f() {\n}\nfunc g() {\n\tif (f()) {\n\t}\n\treturn 0;\n}\n", api.OK)
	text, e = PrintFuncs([]api.Func{})
	checkText(t, "no functions", text, e, "", api.OK)
	text, e = PrintFuncs(nil)
	checkText(t, "no functions", text, e, "", api.OK)
}

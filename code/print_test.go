package code

import (
	"math/rand/v2"
	"slices"
	"strings"
	"testing"

	"foliot/api"
)

func printed(t *testing.T, x api.Exp, want string) {
	t.Helper()
	text, e := PrintExp(x)
	checkText(t, x, text, e, want, api.OK)
}

// P8.4: the text of each kind of expression.
func TestPrintKinds(t *testing.T) {
	a, b, c := name("a"), name("b"), name("c")
	for want, x := range map[string]api.Exp{
		"0":                 num(0),
		"-1":                num(-1),
		"2147483648":        num(1 << 31),
		"-2147483648":       num(-1 << 31),
		"a":                 a,
		longestName:         name(longestName),
		"f()":               call("f"),
		"f(a)":              call("f", a),
		"f(a, 1, -1, g(b))": call("f", a, num(1), num(-1), call("g", b)),
		"-a":                exp(api.ExNeg, a),
		"!a":                exp(api.ExNot, a),
		"a + b":             exp(api.ExAdd, a, b),
		"a - b":             exp(api.ExSub, a, b),
		"a * b":             exp(api.ExMul, a, b),
		"a / b":             exp(api.ExDiv, a, b),
		"a % b":             exp(api.ExMod, a, b),
		"a < b":             exp(api.ExLt, a, b),
		"a <= b":            exp(api.ExLe, a, b),
		"a == b":            exp(api.ExEq, a, b),
		"a != b":            exp(api.ExNe, a, b),
		"a >= b":            exp(api.ExGe, a, b),
		"a > b":             exp(api.ExGt, a, b),
		"a && b":            exp(api.ExAnd, a, b),
		"a || b":            exp(api.ExOr, a, b),
		"a ? b : c":         exp(api.ExIf, a, b, c),
	} {
		printed(t, x, want)
	}
}

// P8.4: parentheses where a number stands behind a -, and only there.
func TestPrintNumbers(t *testing.T) {
	a := name("a")
	for want, x := range map[string]api.Exp{
		"-(1)":          exp(api.ExNeg, num(1)),
		"-(0)":          exp(api.ExNeg, num(0)),
		"-(2147483648)": exp(api.ExNeg, num(1<<31)),
		"--1":           exp(api.ExNeg, num(-1)),
		"--a":           exp(api.ExNeg, exp(api.ExNeg, a)),
		"--(1)":         exp(api.ExNeg, exp(api.ExNeg, num(1))),
		"---1":          exp(api.ExNeg, exp(api.ExNeg, num(-1))),
		"!1":            exp(api.ExNot, num(1)),
		"!-1":           exp(api.ExNot, num(-1)),
		"!0":            exp(api.ExNot, num(0)),
		"-!1":           exp(api.ExNeg, exp(api.ExNot, num(1))),
		"a - -1":        exp(api.ExSub, a, num(-1)),
		"a - 1":         exp(api.ExSub, a, num(1)),
		"a - -(1)":      exp(api.ExSub, a, exp(api.ExNeg, num(1))),
		"-1 * a":        exp(api.ExMul, num(-1), a),
		"-(1) * a":      exp(api.ExMul, exp(api.ExNeg, num(1)), a),
		"-(1 * a)":      exp(api.ExNeg, exp(api.ExMul, num(1), a)),
		"-(-1 - a)":     exp(api.ExNeg, exp(api.ExSub, num(-1), a)),
		"-f(1)":         exp(api.ExNeg, call("f", num(1))),
		"f(-(1), --1)":  call("f", exp(api.ExNeg, num(1)), exp(api.ExNeg, num(-1))),
	} {
		printed(t, x, want)
		parsed(t, want, x)
	}
}

// rankOf are the ranks of the document.
var rankOf = map[int]int{
	api.ExIf: 0, api.ExOr: 1, api.ExAnd: 2, api.ExLt: 3, api.ExLe: 3, api.ExEq: 3, api.ExNe: 3, api.ExGe: 3, api.ExGt: 3, api.ExAdd: 4, api.ExSub: 4,
	api.ExMul: 5, api.ExDiv: 5, api.ExMod: 5,
	api.ExNeg: 6, api.ExNot: 6, api.ExInt: 7, api.ExName: 7, api.ExCall: 7,
}

// demands returns the ranks that the places of an operation's parts demand.
func demands(kind int) []int {
	switch rank := rankOf[kind]; rank {
	case 0:
		return []int{1, 0, 0}
	case 3:
		return []int{4, 4}
	case 6:
		return []int{6}
	default:
		return []int{rank, rank + 1}
	}
}

// textByWords returns the canonical text of an expression in the words of the document.
func textByWords(x api.Exp) string {
	var parts []string
	for k, y := range x.Args {
		text := textByWords(y)
		if x.Kind != api.ExCall && rankOf[y.Kind] < demands(x.Kind)[k] || x.Kind == api.ExNeg && y.Kind == api.ExInt && y.Int >= 0 {
			text = "(" + text + ")"
		}
		parts = append(parts, text)
	}
	switch {
	case x.Kind == api.ExIf:
		return parts[0] + " ? " + parts[1] + " : " + parts[2]
	case x.Kind == api.ExCall:
		return x.Name + "(" + strings.Join(parts, ", ") + ")"
	case len(parts) == 2:
		return parts[0] + " " + signOf[x.Kind] + " " + parts[1]
	case len(parts) == 1:
		return signOf[x.Kind] + parts[0]
	}
	return strings.Join(tokensOf(x), "")
}

// P8.4, P8.5: each kind of expression as each part of each other kind.
func TestPrintParts(t *testing.T) {
	var all []api.Exp
	for kind := range rankOf {
		x := api.Exp{Kind: kind, Args: slices.Repeat([]api.Exp{name("a")}, partsOf[kind])}
		if partsOf[kind] == 0 && kind != api.ExInt {
			x.Name = "f"
		}
		all = append(all, x)
	}
	all = append(all, num(-5))
	for _, x := range all {
		for k := range x.Args {
			for _, part := range all {
				y := exp(x.Kind, slices.Clone(x.Args)...)
				y.Args[k] = part
				want := textByWords(y)
				printed(t, y, want)
				parsed(t, want, y)
				printed(t, call("g", y, y), "g("+want+", "+want+")")
				parenthesesMatter(t, y, want)
			}
		}
	}
}

// parenthesesMatter checks that a canonical text has no parentheses too many:
// without one pair of them it is not the text of the same tree.
func parenthesesMatter(t *testing.T, x api.Exp, text string) {
	t.Helper()
	ats, tokens := tokensFrom(text, 0)
	for k, token := range tokens {
		if token != "(" || k > 0 && namePattern.MatchString(tokens[k-1]) {
			continue
		}
		closing := 0
		topLevel(tokens[k:], func(n int) bool { closing = k + n; return n > 0 && tokens[k+n] == ")" })
		without := text[:ats[k]] + text[ats[k]+1:ats[closing]] + text[ats[closing]+1:]
		if y, _, e := ParseExp(without); e == api.OK && sameExp(x, y) {
			t.Errorf("%q has parentheses that do not matter", text)
		}
	}
}

// P8.4, P8.5: random expressions.
func TestPrintRandomExps(t *testing.T) {
	g := rand.New(rand.NewPCG(8, 3))
	small := 0
	for range 20000 {
		x := randomExp(g, 1+g.IntN(6))
		if size(x) > 400 {
			text, e := PrintExp(x)
			checkText(t, x, text, e, "", api.ErrLong)
			continue
		}
		small++
		want := textByWords(x)
		printed(t, x, want)
		parsed(t, want, x)
		parsed(t, spread(g, tokensOf(x)), x)
		if small%10 == 0 && size(x) < 30 {
			parenthesesMatter(t, x, want)
		}
	}
	if small < 15000 {
		t.Errorf("%d expressions are small", small)
	}
}

// P8.4: the text of functions, one behind the other.
func TestPrintFuncs(t *testing.T) {
	for want, l := range map[string][]api.Func{
		"":                                    nil,
		"func f() {\n}\n":                     funcs(function("f", nil)),
		"func f(a) {\n}\n":                    funcs(function("f", []string{"a"})),
		"func f(a, b) {\n}\nfunc g(a) {\n}\n": funcs(function("f", []string{"a", "b"}), function("g", []string{"a"})),
		"func f() {\n\treturn 1;\n}\n":        funcs(function("f", nil, gives(num(1)))),
	} {
		text, e := PrintFuncs(l)
		checkText(t, l, text, e, want, api.OK)
		parsedFuncs(t, want, l...)
	}
}

// P8.4: the text of each kind of statement, and of statements in each other.
func TestPrintStatements(t *testing.T) {
	a, one := name("a"), num(1)
	for want, body := range map[string][]api.Stmt{
		"\tvar a = 1;\n":              stmts(makes("a", one)),
		"\ta = a + 1;\n":              stmts(sets("a", exp(api.ExAdd, a, one))),
		"\treturn a ? 1 : -1;\n":      stmts(gives(exp(api.ExIf, a, one, num(-1)))),
		"\twhile (a) {\n\t}\n":        stmts(loop(a)),
		"\tif (a < 1) {\n\t}\n":       stmts(choose(exp(api.ExLt, a, one), nil, nil)),
		"\tif (1) {\n\t}\n\ta = 1;\n": stmts(choose(one, []api.Stmt{}, []api.Stmt{}), sets("a", one)),

		"\tif (1) {\n\t\treturn 1;\n\t}\n":             stmts(choose(one, stmts(gives(one)), nil)),
		"\tif (1) {\n\t} else {\n\t\treturn 1;\n\t}\n": stmts(choose(one, nil, stmts(gives(one)))),

		"\twhile (1) {\n\t\tvar a = 1;\n\t\tvar b = 1;\n\t}\n\treturn 1;\n": stmts(loop(one, makes("a", one), makes("b", one)), gives(one)),

		"\tif (1) {\n\t\ta = 1;\n\t} else {\n" +
			"\t\tif (a) {\n\t\t} else {\n\t\t\twhile (1) {\n\t\t\t\treturn a;\n\t\t\t}\n\t\t}\n" +
			"\t}\n": stmts(choose(one, stmts(sets("a", one)), stmts(choose(a, nil, stmts(loop(one, gives(a))))))),
	} {
		l := funcs(function("f", nil, body...))
		text, e := PrintFuncs(l)
		want = "func f() {\n" + want + "}\n"
		checkText(t, l, text, e, want, api.OK)
		parsedFuncs(t, want, l...)
	}
}

// P8.4, P8.5: random functions; the text has a line for each statement and brace,
// with the tabs that belong to it.
func TestPrintRandomFuncs(t *testing.T) {
	g := rand.New(rand.NewPCG(8, 4))
	small := 0
	for range 3000 {
		l := randomFuncs(g)
		text, e := PrintFuncs(l)
		if countOf(l) > 400 {
			checkText(t, l, text, e, "", api.ErrLong)
			continue
		}
		small++
		if e != api.OK || text != linesByWords(l) {
			t.Fatalf("the text of %s: %q, %d", short(l), text, e)
		}
		if len(text) <= 20000 {
			parsedFuncs(t, text, l...)
		}
		if other := spread(g, tokensOfFuncs(l)); len(other) <= 20000 {
			parsedFuncs(t, other, l...)
		}
	}
	if small < 2000 {
		t.Errorf("%d lists of functions are small", small)
	}
}

// linesByWords returns the canonical text of functions in the words of the document.
func linesByWords(l []api.Func) string {
	var text strings.Builder
	var add func(l []api.Stmt, indent string)
	add = func(l []api.Stmt, indent string) {
		for _, s := range l {
			value := textByWords(s.Val)
			text.WriteString(indent + map[int]string{
				api.StVar:    "var " + s.Name + " = " + value + ";\n",
				api.StSet:    s.Name + " = " + value + ";\n",
				api.StReturn: "return " + value + ";\n",
				api.StIf:     "if (" + value + ") {\n",
				api.StWhile:  "while (" + value + ") {\n",
			}[s.Kind])
			add(s.Body, indent+"\t")
			if len(s.Else) > 0 {
				text.WriteString(indent + "} else {\n")
				add(s.Else, indent+"\t")
			}
			if s.Kind == api.StIf || s.Kind == api.StWhile {
				text.WriteString(indent + "}\n")
			}
		}
	}
	for _, f := range l {
		text.WriteString("func " + f.Name + "(" + strings.Join(f.Params, ", ") + ") {\n")
		add(f.Body, "\t")
		text.WriteString("}\n")
	}
	return text.String()
}

// P8.5: what is read with OK is well-formed and small, and its text is the same text again.
func TestReadAndPrint(t *testing.T) {
	g := rand.New(rand.NewPCG(8, 5))
	for range 5000 {
		x, _, e := ParseExp(spread(g, disturb(g, tokensOf(randomExp(g, 4)))))
		if e != api.OK {
			continue
		}
		checkErrno(t, x, "CheckExp", CheckExp(x), api.OK)
		text, _ := PrintExp(x)
		y, at, e := ParseExp(text)
		checkExp(t, "ParseExp", text, y, at, e, x, 0, api.OK)
		again, e := PrintExp(y)
		checkText(t, y, again, e, text, api.OK)
	}
	for range 1000 {
		text := spread(g, disturb(g, tokensOfFuncs(randomFuncs(g))))
		if l, _, e := ParseFuncs(text); e == api.OK {
			checkErrno(t, l, "CheckFuncs", CheckFuncs(l), api.OK)
		}
		if f, _, e := ReadFunc(text, 0); e == api.OK {
			checkErrno(t, f, "CheckFuncs", CheckFuncs(funcs(f)), api.OK)
		}
	}
}

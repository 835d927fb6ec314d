package code

import (
	"math/rand/v2"
	"regexp"
	"slices"
	"strconv"
	"strings"
	"testing"

	"foliot/api"
)

const reservedWords = "model clock var in chan broadcast urgent committed func process init loc inv rate edge when if else while return sync do reset cost kind"

// The names of at most 16 bytes, and one byte more.
const (
	longestName = "sixteen_Letters9"
	tooLongName = "sixteen_Letters99"
)

func num(n int64) api.Exp   { return api.Exp{Kind: api.ExInt, Int: n} }
func name(s string) api.Exp { return api.Exp{Kind: api.ExName, Name: s} }

func exp(kind int, args ...api.Exp) api.Exp { return api.Exp{Kind: kind, Args: args} }

func call(s string, args ...api.Exp) api.Exp {
	return api.Exp{Kind: api.ExCall, Name: s, Args: args}
}

func makes(s string, x api.Exp) api.Stmt { return api.Stmt{Kind: api.StVar, Name: s, Val: x} }
func sets(s string, x api.Exp) api.Stmt  { return api.Stmt{Kind: api.StSet, Name: s, Val: x} }
func gives(x api.Exp) api.Stmt           { return api.Stmt{Kind: api.StReturn, Val: x} }

func loop(x api.Exp, body ...api.Stmt) api.Stmt {
	return api.Stmt{Kind: api.StWhile, Val: x, Body: body}
}

func choose(x api.Exp, body, other []api.Stmt) api.Stmt {
	return api.Stmt{Kind: api.StIf, Val: x, Body: body, Else: other}
}

func stmts(l ...api.Stmt) []api.Stmt { return l }

func function(s string, params []string, body ...api.Stmt) api.Func {
	return api.Func{Name: s, Params: params, Body: body}
}

func funcs(l ...api.Func) []api.Func { return l }

func sameExp(a, b api.Exp) bool {
	return a.Kind == b.Kind && a.Name == b.Name && a.Int == b.Int && slices.EqualFunc(a.Args, b.Args, sameExp)
}

func sameStmt(a, b api.Stmt) bool {
	return a.Kind == b.Kind && a.Name == b.Name && sameExp(a.Val, b.Val) &&
		slices.EqualFunc(a.Body, b.Body, sameStmt) && slices.EqualFunc(a.Else, b.Else, sameStmt)
}

func sameFunc(a, b api.Func) bool {
	return a.Name == b.Name && slices.Equal(a.Params, b.Params) && slices.EqualFunc(a.Body, b.Body, sameStmt)
}

func sameFuncs(a, b []api.Func) bool { return slices.EqualFunc(a, b, sameFunc) }

// The check functions compare all results of a call with those that are wanted.
func checkExp(t *testing.T, what, text string, x api.Exp, at int, e api.Errno, want api.Exp, wantAt int, wantE api.Errno) {
	t.Helper()
	if at != wantAt || e != wantE || !sameExp(x, want) {
		t.Errorf("%s of %.80q: %s, %d, %d; want %s, %d, %d", what, text, short(x), at, e, short(want), wantAt, wantE)
	}
}

func checkFuncs(t *testing.T, what, text string, l []api.Func, at int, e api.Errno, want []api.Func, wantAt int, wantE api.Errno) {
	t.Helper()
	if at != wantAt || e != wantE || !sameFuncs(l, want) {
		t.Errorf("%s of %.80q: %s, %d, %d; want %s, %d, %d", what, text, short(l), at, e, short(want), wantAt, wantE)
	}
}

func checkText(t *testing.T, what any, got string, e api.Errno, want string, wantE api.Errno) {
	t.Helper()
	if got != want || e != wantE {
		t.Errorf("the text of %s: %q, %d; want %q, %d", short(what), got, e, want, wantE)
	}
}

// parseFails checks the error of a text that is no expression.
func parseFails(t *testing.T, text string, want int, wantE api.Errno) {
	t.Helper()
	x, at, e := ParseExp(text)
	checkExp(t, "ParseExp", text, x, at, e, api.Exp{}, want, wantE)
}

func parseFuncsFails(t *testing.T, text string, want int, wantE api.Errno) {
	t.Helper()
	l, at, e := ParseFuncs(text)
	checkFuncs(t, "ParseFuncs", text, l, at, e, nil, want, wantE)
}

// size and depth count what a tree consists of.
func size(x api.Exp) int {
	n := 1
	for _, y := range x.Args {
		n += size(y)
	}
	return n
}

func depth(x api.Exp) int {
	deepest := 0
	for _, y := range x.Args {
		deepest = max(deepest, depth(y))
	}
	return deepest + 1
}

func hasLongCall(x api.Exp) bool {
	return x.Kind == api.ExCall && len(x.Args) > 4 || slices.ContainsFunc(x.Args, hasLongCall)
}

// balanced returns an expression of exactly n nodes that is not deep.
func balanced(n int) api.Exp {
	switch n {
	case 1:
		return num(int64(n))
	case 2:
		return exp(api.ExNot, name("a"))
	}
	return exp(api.ExAdd, balanced((n-1)/2), balanced(n-1-(n-1)/2))
}

// nested returns an expression that is exactly n deep.
func nested(n int) api.Exp {
	x := name("a")
	for range n - 1 {
		x = exp(api.ExNot, x)
	}
	return x
}

// nestedStmt returns a statement that is n deep, with its expressions.
func nestedStmt(n int) api.Stmt {
	s := gives(num(1))
	for range n - 2 {
		s = loop(num(1), s)
	}
	return s
}

// partsOf says how many parts an operation has.
var partsOf = map[int]int{
	api.ExNeg: 1, api.ExNot: 1, api.ExAdd: 2, api.ExSub: 2, api.ExMul: 2, api.ExDiv: 2, api.ExMod: 2,
	api.ExLt: 2, api.ExLe: 2, api.ExEq: 2, api.ExNe: 2, api.ExGe: 2, api.ExGt: 2, api.ExAnd: 2, api.ExOr: 2, api.ExIf: 3,
}

var signOf = map[int]string{
	api.ExNeg: "-", api.ExNot: "!", api.ExAdd: "+", api.ExSub: "-", api.ExMul: "*", api.ExDiv: "/", api.ExMod: "%",
	api.ExLt: "<", api.ExLe: "<=", api.ExEq: "==", api.ExNe: "!=", api.ExGe: ">=", api.ExGt: ">", api.ExAnd: "&&", api.ExOr: "||",
}

// randomExp returns a well-formed expression that is at most so deep.
func randomExp(g *rand.Rand, deep int) api.Exp {
	kind := 1 + g.IntN(19)
	if deep == 1 {
		kind = []int{api.ExInt, api.ExName}[g.IntN(2)]
	}
	x := api.Exp{Kind: kind}
	count := partsOf[kind]
	switch kind {
	case api.ExInt:
		x.Int = []int64{0, 1, -1, 10, 1 << 31, -1 << 31, 1<<31 - 1, g.Int64N(1 << 31), -g.Int64N(1 << 31)}[g.IntN(9)]
	case api.ExName:
		x.Name = randomName(g)
	case api.ExCall:
		x.Name = randomName(g)
		count = g.IntN(5)
	}
	for range count {
		x.Args = append(x.Args, randomExp(g, deep-1))
	}
	return x
}

func randomName(g *rand.Rand) string {
	return []string{"a", "b", "Zz", "x_1", "iff", "modeL", "clocks", longestName}[g.IntN(8)]
}

// randomStmts returns some statements that are at most so deep.
func randomStmts(g *rand.Rand, deep int) []api.Stmt {
	var l []api.Stmt
	for range g.IntN(4) {
		s := api.Stmt{Kind: 1 + g.IntN(5), Val: randomExp(g, 3)}
		if s.Kind == api.StVar || s.Kind == api.StSet {
			s.Name = randomName(g)
		}
		if deep > 1 && (s.Kind == api.StIf || s.Kind == api.StWhile) {
			s.Body = randomStmts(g, deep-1)
		}
		if deep > 1 && s.Kind == api.StIf {
			s.Else = randomStmts(g, deep-1)
		}
		l = append(l, s)
	}
	return l
}

func randomFuncs(g *rand.Rand) []api.Func {
	var l []api.Func
	for range g.IntN(4) {
		f := api.Func{Name: randomName(g), Body: randomStmts(g, 3)}
		for range g.IntN(5) {
			f.Params = append(f.Params, randomName(g))
		}
		l = append(l, f)
	}
	return l
}

// tokensOf returns tokens of an expression, in which all parts of operations
// are in parentheses.
func tokensOf(x api.Exp) []string {
	in := func(x api.Exp) []string { return slices.Concat([]string{"("}, tokensOf(x), []string{")"}) }
	switch x.Kind {
	case api.ExInt:
		if x.Int < 0 {
			return []string{"-", strconv.FormatInt(-x.Int, 10)}
		}
		return []string{strconv.FormatInt(x.Int, 10)}
	case api.ExName:
		return []string{x.Name}
	case api.ExCall:
		l := []string{x.Name, "("}
		for k, y := range x.Args {
			if k > 0 {
				l = append(l, ",")
			}
			l = append(l, tokensOf(y)...)
		}
		return append(l, ")")
	case api.ExNeg, api.ExNot:
		return append([]string{signOf[x.Kind]}, in(x.Args[0])...)
	case api.ExIf:
		return slices.Concat(in(x.Args[0]), []string{"?"}, in(x.Args[1]), []string{":"}, in(x.Args[2]))
	}
	return slices.Concat(in(x.Args[0]), []string{signOf[x.Kind]}, in(x.Args[1]))
}

func tokensOfStmts(l []api.Stmt) []string {
	tokens := []string{"{"}
	for _, s := range l {
		value := tokensOf(s.Val)
		switch s.Kind {
		case api.StVar:
			tokens = slices.Concat(tokens, []string{"var", s.Name, "="}, value, []string{";"})
		case api.StSet:
			tokens = slices.Concat(tokens, []string{s.Name, "="}, value, []string{";"})
		case api.StReturn:
			tokens = slices.Concat(tokens, []string{"return"}, value, []string{";"})
		case api.StWhile:
			tokens = slices.Concat(tokens, []string{"while", "("}, value, []string{")"}, tokensOfStmts(s.Body))
		case api.StIf:
			tokens = slices.Concat(tokens, []string{"if", "("}, value, []string{")"}, tokensOfStmts(s.Body))
			if len(s.Else) > 0 {
				tokens = slices.Concat(tokens, []string{"else"}, tokensOfStmts(s.Else))
			}
		}
	}
	return append(tokens, "}")
}

func tokensOfFuncs(l []api.Func) []string {
	var tokens []string
	for _, f := range l {
		tokens = append(tokens, "func", f.Name, "(")
		for k, s := range f.Params {
			if k > 0 {
				tokens = append(tokens, ",")
			}
			tokens = append(tokens, s)
		}
		tokens = slices.Concat(tokens, []string{")"}, tokensOfStmts(f.Body))
	}
	return tokens
}

// The document's description of what separates tokens, and of a token.
var (
	spacePattern = regexp.MustCompile(`^(?:[ \t\r\n]|//[^\n]*(?:\n|$))*`)
	tokenPattern = regexp.MustCompile(`^(?:[a-zA-Z][a-zA-Z0-9_]*|[0-9]+|\|\||&&|<=|>=|==|!=|->|\.\.|[-+*/%<>=!?:;,.(){}])`)
)

// firstToken returns the place and the text of the first token from a place on;
// an empty text at the end, and at a byte that begins no token.
func firstToken(text string, at int) (int, string) {
	at += len(spacePattern.FindString(text[at:]))
	return at, tokenPattern.FindString(text[at:])
}

// tokensFrom returns the places and the texts of all tokens from a place on, up to
// the end of the text, or the first byte that begins no token. The last one is empty.
func tokensFrom(text string, at int) (ats []int, texts []string) {
	for {
		place, token := firstToken(text, at)
		ats, texts = append(ats, place), append(texts, token)
		if token == "" {
			return ats, texts
		}
		at = place + len(token)
	}
}

// spread returns a text of tokens with random separators between them, as few
// as can be if they may stand together.
func spread(g *rand.Rand, tokens []string) string {
	var text strings.Builder
	before := ""
	for _, token := range tokens {
		_, both := tokensFrom(before+token, 0)
		mayTouch := before == "" || len(both) == 3 && both[0] == before && both[1] == token
		if !mayTouch || g.IntN(4) == 0 {
			text.WriteString([]string{" ", "\t", "\n", "\r\n", " // ) remark \xff\n", "  "}[g.IntN(6)])
		}
		text.WriteString(token)
		before = token
	}
	return text.String()
}

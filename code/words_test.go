package code

import (
	"math/rand/v2"
	"slices"
	"strconv"
	"strings"
	"testing"

	"foliot/api"
)

// This file compares what is read with the grammar, and with trees that are made
// of tokens from the outside to the inside.

// topLevel calls f for each token that is in no parentheses, up to the first for which it is true.
func topLevel(tokens []string, f func(k int) bool) {
	open := 0
	for k, token := range tokens {
		if token == ")" {
			open--
		}
		if open == 0 && f(k) {
			return
		}
		if token == "(" {
			open++
		}
	}
}

// treeOf returns the tree of tokens that are an expression.
func treeOf(tokens []string) api.Exp {
	question, colon, nested := -1, -1, 0
	topLevel(tokens, func(k int) bool {
		switch {
		case tokens[k] == "?" && question < 0:
			question = k
		case tokens[k] == "?":
			nested++
		case tokens[k] == ":" && nested > 0:
			nested--
		case tokens[k] == ":":
			colon = k
		}
		return colon >= 0
	})
	if question >= 0 {
		return exp(api.ExIf, treeOf(tokens[:question]), treeOf(tokens[question+1:colon]), treeOf(tokens[colon+1:]))
	}
	for _, kinds := range [][]int{
		{api.ExOr}, {api.ExAnd}, {api.ExLt, api.ExLe, api.ExEq, api.ExNe, api.ExGe, api.ExGt},
		{api.ExAdd, api.ExSub}, {api.ExMul, api.ExDiv, api.ExMod},
	} {
		if at, kind := lastOperator(tokens, kinds); at > 0 {
			return exp(kind, treeOf(tokens[:at]), treeOf(tokens[at+1:]))
		}
	}
	return smallTreeOf(tokens)
}

// lastOperator returns the last token that is one of these operators, with a left part.
func lastOperator(tokens []string, kinds []int) (at, kind int) {
	topLevel(tokens, func(k int) bool {
		for _, some := range kinds {
			if k > 0 && tokens[k] == signOf[some] && (tokens[k-1] == ")" || namePattern.MatchString(tokens[k-1]) || digitPattern.MatchString(tokens[k-1])) {
				at, kind = k, some
			}
		}
		return false
	})
	return at, kind
}

// smallTreeOf returns the tree of tokens that are a unary of the grammar.
func smallTreeOf(tokens []string) api.Exp {
	switch {
	case tokens[0] == "!":
		return exp(api.ExNot, treeOf(tokens[1:]))
	case tokens[0] == "-" && !digitPattern.MatchString(tokens[1]):
		return exp(api.ExNeg, treeOf(tokens[1:]))
	case tokens[0] == "-" || digitPattern.MatchString(tokens[0]):
		n, _ := strconv.ParseInt(strings.Join(tokens, ""), 10, 64)
		return num(n)
	case tokens[0] == "(":
		return treeOf(tokens[1 : len(tokens)-1])
	case len(tokens) == 1:
		return name(tokens[0])
	}
	x := call(tokens[0])
	within, from := tokens[2:len(tokens)-1], 0
	topLevel(within, func(k int) bool {
		if within[k] == "," {
			x.Args, from = append(x.Args, treeOf(within[from:k])), k+1
		}
		return false
	})
	if len(within) > 0 {
		x.Args = append(x.Args, treeOf(within[from:]))
	}
	return x
}

// checkExpByWords compares what ReadExp and ParseExp return with the grammar.
func checkExpByWords(t *testing.T, text string, from int) bool {
	t.Helper()
	place, is := readByGrammar("exp", text, from)
	want, wantPlace, wantE := api.Exp{}, place, api.ErrSyntax
	if is {
		_, tokens := tokensFrom(text[:place], from)
		want, wantE = treeOf(tokens[:len(tokens)-1]), api.OK
		if size(want) > 400 || depth(want) > 30 || hasLongCall(want) {
			want, wantPlace, wantE = api.Exp{}, 0, api.ErrLong
		}
	}
	x, at, e := ReadExp(text, from)
	checkExp(t, "ReadExp", text, x, at, e, want, wantPlace, wantE)
	switch {
	case is && place < len(text):
		want, wantPlace, wantE = api.Exp{}, place, api.ErrSyntax
	case is:
		wantPlace = 0
	}
	if from == 0 {
		x, at, e = ParseExp(text)
		checkExp(t, "ParseExp", text, x, at, e, want, wantPlace, wantE)
	}
	return is
}

// checkFuncsByWords compares the places that ParseFuncs and ReadFunc return with
// the grammar, for a text of few functions.
func checkFuncsByWords(t *testing.T, text string, from int) bool {
	t.Helper()
	place, is := readByGrammar("func", text, from)
	wantE := api.ErrSyntax
	if is {
		wantE = api.OK
	}
	f, at, e := ReadFunc(text, from)
	if at != place || e != wantE || is != (f.Name != "") {
		t.Errorf("ReadFunc(%q, %d): %s, %d, %d; want %d, %d", text, from, short(f), at, e, place, wantE)
	}
	if from > 0 {
		return is
	}
	place, is = readByGrammar("funcs", text, from)
	wantE = api.ErrSyntax
	if is = is && place == len(text); is {
		place, wantE = 0, api.OK
	}
	l, at, e := ParseFuncs(text)
	if at != place || e != wantE || !is && len(l) > 0 {
		t.Errorf("ParseFuncs(%q): %s, %d, %d; want %d, %d", text, short(l), at, e, place, wantE)
	}
	return is
}

// eachSequence calls f with all sequences of up to n tokens of which only the
// last one may be wrong: f tells whether it is not.
func eachSequence(tokens, more []string, n int, f func(tokens []string) bool) {
	for _, token := range more {
		longer := append(slices.Clip(tokens), token)
		if f(longer) && n > 1 {
			eachSequence(longer, more, n-1, f)
		}
	}
}

// P8.2, P8.3: all short sequences of tokens, as expressions.
func TestShortExpsByWords(t *testing.T) {
	right, wrong := 0, 0
	count := func(tokens []string) bool {
		text := strings.Join(tokens, " ")
		if checkExpByWords(t, text, 0) {
			right++
		} else {
			wrong++
		}
		checkExpByWords(t, "x "+text, 2)
		place, _ := readByGrammar("exp", text, 0)
		return place == len(text)
	}
	eachSequence(nil, strings.Fields("a 1 0 01 if - + * <= && || ? : ( ) , ! = == @"), 4, count)
	eachSequence(nil, strings.Fields("a 0 - < ? : ( )"), 7, count)
	eachSequence(strings.Fields("f ( a"), strings.Fields("b 1 - % , ( ) ;"), 5, count)
	if right < 1000 || wrong < 1000 {
		t.Errorf("%d right ones, %d wrong ones", right, wrong)
	}
}

// P8.2, P8.3: all short sequences of tokens, as functions and in them.
func TestShortFuncsByWords(t *testing.T) {
	right, wrong := 0, 0
	count := func(tokens []string) bool {
		text := strings.Join(tokens, " ")
		if checkFuncsByWords(t, text, 0) {
			right++
		} else {
			wrong++
		}
		place, _ := readByGrammar("funcs", text, 0)
		return place == len(text)
	}
	words := strings.Fields("func var if else while return a b 1 01 - = == , ; ( ) { } @")
	eachSequence(nil, words, 7, count)
	eachSequence(strings.Fields("func f ( ) {"), words, 5, count)
	eachSequence(strings.Fields("func f ( ) { if ( 1 ) {"), words, 5, count)
	eachSequence(strings.Fields("func f ( ) { while ( a"), words, 4, count)
	if right < 20 || wrong < 1000 {
		t.Errorf("%d right ones, %d wrong ones", right, wrong)
	}
}

// disturb changes a few tokens.
func disturb(g *rand.Rand, tokens []string) []string {
	others := strings.Fields("a f 1 0 01 2147483648 2147483649 - + * / % < <= == != >= > && || ? : ( ) , ! = ; { } -> .. . & | @ _ ä " +
		"if else while return var func clock \xff \x00 " + tooLongName + " " + longestName)
	l := slices.Clone(tokens)
	for range g.IntN(4) {
		k := g.IntN(len(l) + 1)
		switch other := others[g.IntN(len(others))]; {
		case g.IntN(3) == 0:
			l = slices.Insert(l, k, other)
		case k < len(l) && g.IntN(2) == 0:
			l[k] = other
		case k < len(l):
			l = slices.Delete(l, k, k+1)
		}
	}
	return l
}

// P8.2, P8.3: random expressions that are disturbed, read from some place on.
func TestDisturbedExpsByWords(t *testing.T) {
	g := rand.New(rand.NewPCG(8, 1))
	right := 0
	for range 20000 {
		text := spread(g, disturb(g, tokensOf(randomExp(g, 1+g.IntN(4)))))
		if checkExpByWords(t, text, 0) {
			right++
		}
		checkExpByWords(t, text, g.IntN(len(text)+1))
	}
	if right < 5000 || right > 15000 {
		t.Errorf("%d right ones", right)
	}
}

// P8.2, P8.3: random functions that are disturbed, read from some place on.
func TestDisturbedFuncsByWords(t *testing.T) {
	g := rand.New(rand.NewPCG(8, 2))
	right := 0
	for range 5000 {
		l := randomFuncs(g)
		if countOf(l) > 300 {
			continue
		}
		text := spread(g, disturb(g, tokensOfFuncs(l)))
		if checkFuncsByWords(t, text, 0) {
			right++
		}
		checkFuncsByWords(t, text, g.IntN(len(text)+1))
	}
	if right < 1000 || right > 4000 {
		t.Errorf("%d right ones", right)
	}
}

// countOf counts the statements and expressions of functions.
func countOf(l []api.Func) int {
	n := 0
	var add func(l []api.Stmt)
	add = func(l []api.Stmt) {
		for _, s := range l {
			n += 1 + size(s.Val)
			add(s.Body)
			add(s.Else)
		}
	}
	for _, f := range l {
		add(f.Body)
	}
	return n
}

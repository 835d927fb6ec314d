package network_test

import (
	"slices"
	"strings"
	"testing"

	"foliot/api"
	"foliot/network"
)

// checkByWords compares the place and the error of Parse with the grammar, for a
// text whose tree is small if it is a model, and what Parse returns with what P11.4 says of it.
func checkByWords(t *testing.T, rules map[string]rule, text string) bool {
	t.Helper()
	place, is := readByGrammar(rules, text)
	if !is {
		parseFails(t, text, place, api.ErrSyntax)
		return false
	}
	m, at, e := network.Parse(text)
	if at != 0 || e != api.OK {
		t.Errorf("Parse of %.300q: %d, %d", text, at, e)
		return true
	}
	checkForm(t, "what Parse returns", m, api.OK)
	canonical, _ := network.Print(m)
	checkParse(t, canonical, m)
	return true
}

// sequences checks all sequences of up to n tokens behind others of which only the last one may be wrong.
func sequences(t *testing.T, rules map[string]rule, before, tokens []string, n int) (right, wrong int) {
	t.Helper()
	for _, token := range tokens {
		longer := append(slices.Clip(before), token)
		text := strings.Join(longer, " ")
		if checkByWords(t, rules, text) {
			right++
		} else {
			wrong++
		}
		if place, _ := readByGrammar(rules, text); place == len(text) && n > 1 {
			more, others := sequences(t, rules, longer, tokens, n-1)
			right, wrong = right+more, wrong+others
		}
	}
	return right, wrong
}

// P11.2, P11.4: all short sequences of tokens, from several places of a model on.
func TestShortTextsByWords(t *testing.T) {
	rules := rulesOf(grammar)
	for _, c := range []struct {
		before, tokens string
		length         int
	}{
		{"", "model m clock x ; , var in 1", 6},
		{"model m ;", "clock var chan broadcast urgent func process init in .. 1 - 0 = , ; m { }", 7},
		{"model m ; func f ( ) { }", "clock var chan func process init m ( ) { } return ; model", 7},
		{"model m ; process P init A {", "loc A urgent committed inv rate < == 1 && - ; } edge ->", 7},
		{"model m ; process P init A { loc A ; edge A -> A", "when x <= 1 && == if sync ! ? do = reset cost kind , ; }", 5},
		{"model m ; process P init A { edge A -> A if a", "+ b ( ) , ? : < && ; } sync ! do = reset -", 5},
		{"model m ; process P init A { edge A -> A do v = 1", "- 2 , w = < ( ) reset cost ; } ?", 6},
		{"model m ; process P init A { edge A -> A sync c !", "= do reset x , 1 - 0 cost kind ; } process loc", 6},
	} {
		right, wrong := sequences(t, rules, strings.Fields(c.before), strings.Fields(c.tokens), c.length)
		if right == 0 || wrong < 100 {
			t.Errorf("behind %q, %d right ones, %d wrong ones", c.before, right, wrong)
		}
	}
}

// P11.2: the beginnings of a model, up to each byte.
func TestBeginningsByWords(t *testing.T) {
	rules := rulesOf(grammar)
	right := 0
	for k := range len(fullText) + 1 {
		if checkByWords(t, rules, fullText[:k]) {
			right++
		}
		checkByWords(t, rules, fullText[k:])
	}
	if right < 10 {
		t.Errorf("%d beginnings are models", right)
	}
}

// P11.2, P11.4: random models, written in one of their ways.
func TestRandomModels(t *testing.T) {
	w := newWriter(1)
	for range 5000 {
		m := w.anyModel()
		checkForm(t, "a random model", m, api.OK)
		checkParse(t, w.spread(w.model(m)), m)
		text, _ := network.Print(m)
		checkParse(t, text, m)
		if again := clone(m); !network.Same(m, again) {
			t.Errorf("%s is not the same as itself", short(m))
		}
		if other := w.anyModel(); network.Same(m, other) != equal(m, other) {
			t.Errorf("Same of %s and %s: %t", short(m), short(other), network.Same(m, other))
		}
	}
}

// disturb changes a few tokens.
func (w *writer) disturb(tokens []string) []string {
	others := strings.Fields(reservedWords + " a x 1 0 01 2147483648 2147483649 - + * < <= == != >= > && || ? : ( ) , ! = ; { } -> .. . & | @ _ ä \xff " + tooLongName)
	l := slices.Clone(tokens)
	for range 1 + w.IntN(2) {
		k := w.IntN(len(l) + 1)
		switch other := one(w, others...); {
		case w.IntN(3) == 0:
			l = slices.Insert(l, k, other)
		case k+1 < len(l) && w.IntN(3) == 0:
			l[k], l[k+1] = l[k+1], l[k]
		case k < len(l) && w.IntN(2) == 0:
			l[k] = other
		case k < len(l):
			l = slices.Delete(l, k, k+1)
		}
	}
	return l
}

// P11.2, P11.4: random models that are disturbed.
func TestDisturbedModelsByWords(t *testing.T) {
	w, rules := newWriter(2), rulesOf(grammar)
	right := 0
	const all = 10000
	for range all {
		if checkByWords(t, rules, w.spread(w.disturb(w.model(w.anyModel())))) {
			right++
		}
	}
	if right < all/100 || right > all/2 {
		t.Errorf("%d right ones", right)
	}
}

// P11.2: a tree that is not small is told behind what is wrong, and at the place 0.
func TestParseAtLimits(t *testing.T) {
	w := newWriter(3)
	for _, s := range eachSize() {
		for n := range 3 {
			m := s.make(s.most - n)
			checkParse(t, w.spread(w.model(m)), m)
			text := w.spread(w.model(s.make(s.most + 1 + n)))
			parseFails(t, text, 0, api.ErrLong)
			parseFails(t, text+" }", len(text)+1, api.ErrSyntax)
			parseFails(t, text+" process", len(text)+8, api.ErrSyntax)
			parseFails(t, strings.Replace(text, "process", " @ ", 1), strings.Index(text, "process")+1, api.ErrSyntax)
		}
	}
	equals := func(n int) string { return strings.Repeat(" && x == 1", n) }
	parseFails(t, inProcess("loc A inv x < 1"+equals(8)+";"), 0, api.ErrLong)
	parseFails(t, inProcess("edge A -> A when x < 1"+equals(8)+";"), 0, api.ErrLong)
	if m, at, e := network.Parse(inProcess("loc A inv x == 0" + equals(7) + ";")); at != 0 || e != api.OK || len(m.Procs[0].Locs[0].Inv) != 16 {
		t.Errorf("eight tests for two: %s, %d, %d", short(m), at, e)
	}
}

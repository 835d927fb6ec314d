package code

import (
	"regexp"
	"slices"
	"strconv"
	"strings"
)

// This file tells by the grammar of the document, word for word, which texts
// are expressions and functions, and which token of the others is wrong.

// What the document says of a - in front of a number is put into the grammar:
// natural and positive are numbers that are integers, minus is a - that no
// number follows.
const grammar = `
exp     = or [ "?" exp ":" exp ]
or      = and { "||" and }
and     = compare { "&&" compare }
compare = sum [ ("<" | "<=" | "==" | "!=" | ">=" | ">") sum ]
sum     = product { ("+" | "-") product }
product = unary { ("*" | "/" | "%") unary }
unary   = minus unary | "!" unary | primary
primary = integer | name | name "(" [ exp { "," exp } ] ")" | "(" exp ")"
integer = natural | "-" positive
funcs   = { func }
func    = "func" name "(" [ name { "," name } ] ")" block
block   = "{" { stmt } "}"
stmt    = "var" name "=" exp ";" | name "=" exp ";" | "if" "(" exp ")" block [ "else" block ] | "while" "(" exp ")" block | "return" exp ";"
`

// rule is a part of a grammar: a word or a token; otherwise its kind is the
// bracket around it, | for a choice, or 0 for a sequence.
type rule struct {
	word  string
	kind  byte
	parts []rule
}

var grammarRules = rulesOf(grammar)

func rulesOf(grammar string) map[string]rule {
	made := map[string]rule{}
	words := regexp.MustCompile(`"[^"]*"|[a-z]+|[][(){}|=]`)
	for _, line := range strings.Split(strings.TrimSpace(grammar), "\n") {
		l := words.FindAllString(line, -1)
		made[l[0]], _ = choice(l[2:])
	}
	return made
}

// choice returns what stands before a closing bracket, and the words behind it.
func choice(words []string) (rule, []string) {
	all, sequence := rule{kind: '|'}, rule{}
	for len(words) > 0 {
		word := words[0]
		words = words[1:]
		switch word {
		case "|":
			all.parts, sequence = append(all.parts, sequence), rule{}
		case "(", "[", "{":
			within := rule{}
			within, words = choice(words)
			sequence.parts = append(sequence.parts, rule{kind: word[0], parts: []rule{within}})
		case ")", "]", "}":
			all.parts = append(all.parts, sequence)
			return all, words
		default:
			sequence.parts = append(sequence.parts, rule{word: word})
		}
	}
	all.parts = append(all.parts, sequence)
	return all, nil
}

// search looks for all ways in which tokens can be what a grammar says. The last
// token is the empty one, which nothing can be.
type search struct {
	tokens   []string
	known    map[wordAt][]int
	furthest int // the last token that something could be, or that something was tried for
}

type wordAt struct {
	word string
	at   int
}

// with adds to a list what is not in it.
func with(l []int, more []int) []int {
	for _, x := range more {
		if !slices.Contains(l, x) {
			l = append(l, x)
		}
	}
	return l
}

// ends returns the places behind all tokens from a place on that can be x.
func (s *search) ends(x rule, at int) []int {
	var made []int
	switch {
	case x.word != "":
		return s.wordEnds(x.word, at)
	case x.kind == '[':
		return with([]int{at}, s.ends(x.parts[0], at))
	case x.kind == '{':
		made = []int{at}
		for k := 0; k < len(made); k++ {
			made = with(made, s.ends(x.parts[0], made[k]))
		}
	case x.kind == 0:
		made = []int{at}
		for _, y := range x.parts {
			var next []int
			for _, place := range made {
				next = with(next, s.ends(y, place))
			}
			made = next
		}
	default:
		for _, y := range x.parts {
			made = with(made, s.ends(y, at))
		}
	}
	return made
}

func (s *search) wordEnds(word string, at int) []int {
	if x, isThere := grammarRules[word]; isThere {
		made, isKnown := s.known[wordAt{word, at}]
		if !isKnown {
			made = s.ends(x, at)
			s.known[wordAt{word, at}] = made
		}
		return made
	}
	s.furthest = max(s.furthest, at)
	if !s.isOne(word, at) {
		return nil
	}
	s.furthest = max(s.furthest, at+1)
	return []int{at + 1}
}

var (
	reserved     = strings.Fields(reservedWords)
	namePattern  = regexp.MustCompile(`^[a-zA-Z][a-zA-Z0-9_]{0,15}$`)
	digitPattern = regexp.MustCompile(`^[0-9]`)
)

// isOne tells whether a token is what a word of the grammar stands for that no rule explains.
func (s *search) isOne(word string, at int) bool {
	token := s.tokens[at]
	switch word {
	case "name":
		return namePattern.MatchString(token) && !slices.Contains(reserved, token)
	case "natural":
		return isNatural(token)
	case "positive":
		return isNatural(token) && token != "0"
	case "minus":
		return token == "-" && !digitPattern.MatchString(s.tokens[at+1])
	}
	return `"`+token+`"` == word
}

func isNatural(token string) bool {
	n, err := strconv.ParseUint(token, 10, 64)
	return err == nil && n <= 2147483648 && strconv.FormatUint(n, 10) == token
}

// readByGrammar tells whether the tokens of a text from a place on begin with an
// expression, a function or functions, all as long as can be, and returns the
// place of the first token that does not belong to it, or is wrong.
func readByGrammar(what, text string, from int) (int, bool) {
	ats, tokens := tokensFrom(text, from)
	s := &search{tokens: tokens, known: map[wordAt][]int{}}
	ends := s.ends(rule{word: what}, 0)
	return ats[s.furthest], slices.Contains(ends, s.furthest)
}

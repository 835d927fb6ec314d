package network_test

import (
	"regexp"
	"slices"
	"strconv"
	"strings"
)

// This file tells by the grammars of the document, word for word, which texts
// are models, and which token of the others is wrong.

// The chapter's grammar, and that of chapter 8, where the kinds of integers say
// what stands there of a - in front of a number: natural and positive are numbers
// that are integers, minus is a - that no number follows. A call stands in front
// of a name, since the first choice that is possible is taken.
const grammar = `
model   = "model" name ";" { clock | var | chan } { func } { process }
clock   = "clock" name { "," name } ";"
var     = "var" name "in" integer ".." integer "=" integer ";"
chan    = [ "broadcast" ] [ "urgent" ] "chan" name { "," name } ";"
process = "process" name "init" name "{" { loc } { edge } "}"
loc     = "loc" name [ "urgent" | "committed" ] [ "inv" tests ] [ "rate" integer ] ";"
edge    = "edge" name "->" name [ "when" tests ] [ "if" exp ] [ "sync" name ( "!" | "?" ) ] [ "do" assign { "," assign } ] [ "reset" clear { "," clear } ] [ "cost" integer ] [ "kind" integer ] ";"
tests   = test { "&&" test }
test    = name ( "<" | "<=" | ">" | ">=" | "==" ) integer
assign  = name "=" exp
clear   = name "=" integer
integer = natural | "-" positive
exp     = or [ "?" exp ":" exp ]
or      = and { "||" and }
and     = compare { "&&" compare }
compare = sum [ ( "<" | "<=" | "==" | "!=" | ">=" | ">" ) sum ]
sum     = product { ( "+" | "-" ) product }
product = unary { ( "*" | "/" | "%" ) unary }
unary   = minus unary | "!" unary | primary
primary = integer | name "(" [ exp { "," exp } ] ")" | name | "(" exp ")"
func    = "func" name "(" [ name { "," name } ] ")" block
block   = "{" { stmt } "}"
stmt    = "var" name "=" exp ";" | name "=" exp ";" | "if" "(" exp ")" block [ "else" block ] | "while" "(" exp ")" block | "return" exp ";"
`

// rule returns the place behind the tokens from a place on that are what it
// says, as many as there are; -1 if there are none.
type rule func(s *search, at int) int

// search looks at tokens, of which the last one is the empty one that nothing can be.
type search struct {
	rules    map[string]rule
	tokens   []string
	furthest int // the last token that something was tried for
}

func (s *search) word(word string, at int) int {
	if x, isThere := s.rules[word]; isThere {
		return x(s, at)
	}
	s.furthest = max(s.furthest, at)
	if !s.isOne(word, at) {
		return -1
	}
	return at + 1
}

// The document's description of names and numbers, of what separates tokens, and of a token.
var (
	reserved     = strings.Fields(reservedWords)
	namePattern  = regexp.MustCompile(`^[a-zA-Z][a-zA-Z0-9_]{0,15}$`)
	digitPattern = regexp.MustCompile(`^[0-9]`)
	spacePattern = regexp.MustCompile(`^(?:[ \t\r\n]|//[^\n]*(?:\n|$))*`)
	tokenPattern = regexp.MustCompile(`^(?:[a-zA-Z][a-zA-Z0-9_]*|[0-9]+|\|\||&&|<=|>=|==|!=|->|\.\.|[-+*/%<>=!?:;,.(){}])`)
)

// isOne tells whether a token is what a word of the grammar stands for that no rule explains.
func (s *search) isOne(word string, at int) bool {
	token := s.tokens[at]
	switch word {
	case "name":
		return namePattern.MatchString(token) && !slices.Contains(reserved, token)
	case "natural":
		return isNatural(token)
	case "positive":
		return isNatural(token) && token != "0"
	case "minus":
		return token == "-" && !digitPattern.MatchString(s.tokens[at+1])
	}
	return `"`+token+`"` == word
}

func isNatural(token string) bool {
	n, err := strconv.ParseUint(token, 10, 64)
	return err == nil && n <= 2147483648 && strconv.FormatUint(n, 10) == token
}

// compiler makes rules of the words of a grammar.
type compiler struct{ words []string }

func rulesOf(grammar string) map[string]rule {
	made := map[string]rule{}
	words := regexp.MustCompile(`"[^"]*"|[a-z]+|[][(){}|=]`)
	for line := range strings.Lines(strings.TrimSpace(grammar)) {
		l := words.FindAllString(line, -1)
		made[l[0]] = (&compiler{l[2:]}).choice()
	}
	return made
}

func (c *compiler) choice() rule {
	l := []rule{c.sequence()}
	for len(c.words) > 0 && c.words[0] == "|" {
		c.words = c.words[1:]
		l = append(l, c.sequence())
	}
	return func(s *search, at int) int {
		for _, x := range l {
			if end := x(s, at); end >= 0 {
				return end
			}
		}
		return -1
	}
}

func (c *compiler) sequence() rule {
	var l []rule
	for len(c.words) > 0 && !strings.Contains(")]}|", c.words[0]) {
		l = append(l, c.part())
	}
	return func(s *search, at int) int {
		for _, x := range l {
			if at = x(s, at); at < 0 {
				return -1
			}
		}
		return at
	}
}

func (c *compiler) part() rule {
	word := c.words[0]
	c.words = c.words[1:]
	if !strings.Contains("([{", word) {
		return func(s *search, at int) int { return s.word(word, at) }
	}
	x := c.choice()
	c.words = c.words[1:]
	switch word {
	case "[":
		return func(s *search, at int) int { return max(at, x(s, at)) }
	case "{":
		return func(s *search, at int) int {
			for end := at; end >= 0; end = x(s, at) {
				at = end
			}
			return at
		}
	}
	return x
}

// tokensOf returns the places and the texts of all tokens, up to the end of the
// text, or the first byte that begins no token. The last one is empty.
func tokensOf(text string) (ats []int, tokens []string) {
	at := 0
	for {
		at += len(spacePattern.FindString(text[at:]))
		token := tokenPattern.FindString(text[at:])
		ats, tokens = append(ats, at), append(tokens, token)
		if token == "" {
			return ats, tokens
		}
		at += len(token)
	}
}

// readByGrammar returns the place of the first token that is wrong, and whether there is none.
func readByGrammar(rules map[string]rule, text string) (int, bool) {
	ats, tokens := tokensOf(text)
	s := &search{rules: rules, tokens: tokens}
	end := s.word("model", 0)
	place := ats[s.furthest]
	return place, end == len(tokens)-1 && place == len(text)
}

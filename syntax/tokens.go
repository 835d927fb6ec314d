package syntax

import (
	"strings"

	"foliot/api"
)

// token is a part of a text. At the end of the text, and at a byte that begins
// no token, it is empty.
type token struct {
	at   int // the place of its first byte
	text string
}

// tokenFrom returns the first token that begins at a place or behind it.
func tokenFrom(text string, at int) token {
	rest := withoutSpace(text[at:])
	length := max(wordLength(rest), numberLength(rest), signLength(rest)) // at most one of them is not 0
	return token{at: len(text) - len(rest), text: rest[:length]}
}

func (t token) isNumber() bool { return numberLength(t.text) > 0 }

// withoutSpace returns the text behind the separators and remarks with which it begins.
func withoutSpace(text string) string {
	for {
		text = strings.TrimLeft(text, " \t\r\n")
		if !strings.HasPrefix(text, "//") {
			return text
		}
		_, text, _ = strings.Cut(text, "\n")
	}
}

// wordLength, numberLength and signLength return how many bytes the token of
// this sort has with which a text begins; 0 if it begins with none.
func wordLength(text string) int {
	if text == "" || !isLetter(text[0]) {
		return 0
	}
	return span(text, func(c byte) bool { return isLetter(c) || isDigit(c) || c == '_' })
}

func numberLength(text string) int { return span(text, isDigit) }

func signLength(text string) int {
	switch text[:min(2, len(text))] {
	case "||", "&&", "<=", ">=", "==", "!=", "->", "..":
		return 2
	}
	if text != "" && strings.IndexByte("+-*/%<>=!?:;,.(){}", text[0]) >= 0 {
		return 1
	}
	return 0
}

// span returns how many bytes, from the first one on, are such ones.
func span(text string, isOne func(c byte) bool) int {
	for k := range len(text) {
		if !isOne(text[k]) {
			return k
		}
	}
	return len(text)
}

func isLetter(c byte) bool { return c >= 'a' && c <= 'z' || c >= 'A' && c <= 'Z' }

func isDigit(c byte) bool { return c >= '0' && c <= '9' }

// IsName tells whether a text is a name.
func IsName(s string) bool {
	return s != "" && len(s) <= api.MaxIdent && wordLength(s) == len(s) && !isReserved(s)
}

func isReserved(word string) bool {
	switch word {
	case "model", "clock", "var", "in", "chan", "broadcast", "urgent", "committed",
		"func", "process", "init", "loc", "inv", "rate", "edge", "when",
		"if", "else", "while", "return", "sync", "do", "reset", "cost", "kind":
		return true
	}
	return false
}

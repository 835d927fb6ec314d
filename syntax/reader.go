// Package syntax reads tokens, and the expressions and functions of which they consist. The layers whose grammars contain those of layer 8 share it.
package syntax

import (
	"strconv"
	"strings"

	"foliot/api"
)

// Reader goes through the tokens of a text. Its methods leave at a token that is
// wrong, and so they may be called only by what Read and Parse are handed.
type Reader struct {
	text      string
	operators Binaries
	next      token // the first one that is not read yet
}

// wrong is the place of a token that is wrong: a reader leaves with it.
type wrong int

// Read returns the tree that part makes of the tokens from a place on, and the
// place of the token behind it; with an error, the place of the first token that is wrong.
func Read[T any](text string, at int, part func(r *Reader) T, check func(tree T) api.Errno) (tree T, place int, e api.Errno) {
	if at < 0 || at > len(text) {
		return tree, 0, api.ErrArg
	}
	if len(text) > api.MaxText {
		return tree, 0, api.ErrLong
	}
	defer func() {
		if met := recover(); met != nil {
			place, e = int(met.(wrong)), api.ErrSyntax
		}
	}()
	r := &Reader{text: text, operators: BinaryOperators(), next: tokenFrom(text, at)}
	made := part(r)
	if e = check(made); e != api.OK {
		return tree, 0, e
	}
	return made, r.next.at, api.OK
}

// Parse returns the tree that part makes of all tokens.
func Parse[T any](text string, part func(r *Reader) T, check func(tree T) api.Errno) (T, int, api.Errno) {
	tree, place, e := Read(text, 0, func(r *Reader) T {
		made := part(r)
		if !r.IsAtEnd() {
			r.Leave()
		}
		return made
	}, check)
	if e == api.OK {
		place = 0
	}
	return tree, place, e
}

// Leave ends the reading, as the next token is wrong.
func (r *Reader) Leave() { panic(wrong(r.next.at)) }

func (r *Reader) IsAtEnd() bool { return r.next.at == len(r.text) }

// Next returns the next token without reading it; it is empty at the end, and at
// a byte that begins no token.
func (r *Reader) Next() string { return r.next.text }

// Advance reads the next token, whatever it is.
func (r *Reader) Advance() { r.next = tokenFrom(r.text, r.next.at+len(r.next.text)) }

// Take reads the next token if it has this text.
func (r *Reader) Take(text string) bool {
	if r.next.text != text {
		return false
	}
	r.Advance()
	return true
}

func (r *Reader) Expect(text string) {
	if !r.Take(text) {
		r.Leave()
	}
}

// List reads one or more parts with signs between them.
func List[T any](r *Reader, sign string, part func() T) []T {
	l := []T{part()}
	for r.Take(sign) {
		l = append(l, part())
	}
	return l
}

func (r *Reader) Name() string {
	if !IsName(r.next.text) {
		r.Leave()
	}
	name := strings.Clone(r.next.text)
	r.Advance()
	return name
}

func (r *Reader) Integer() int64 {
	if r.Take("-") {
		return r.integer(-1)
	}
	return r.integer(1)
}

// integer reads the number of an integer, whose sign is read already.
func (r *Reader) integer(sign int64) int64 {
	digits := r.next.text
	size, err := strconv.ParseInt(digits, 10, 64)
	isZero, beginsWithZero := digits == "0" && sign > 0, strings.HasPrefix(digits, "0")
	if err != nil || size > api.MaxValue || beginsWithZero && !isZero {
		r.Leave()
	}
	r.Advance()
	return sign * size
}

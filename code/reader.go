package code

import (
	"strconv"
	"strings"

	"foliot/api"
)

// reader goes through the tokens of a text.
type reader struct {
	text      string
	operators binaries
	next      token // the first one that is not read yet
}

// wrong is the place of a token that is wrong: a reader leaves with it.
type wrong int

// read returns the tree that part makes of the tokens from a place on, and the
// place of the token behind it.
func read[T any](text string, at int, part func(r *reader) T, check func(tree T) api.Errno) (tree T, place int, e api.Errno) {
	if at < 0 || at > len(text) {
		return tree, 0, api.ErrArg
	}
	if len(text) > api.MaxText {
		return tree, 0, api.ErrLong
	}
	defer func() {
		if met := recover(); met != nil {
			place, e = int(met.(wrong)), api.ErrSyntax
		}
	}()
	r := &reader{text: text, operators: binaryOperators(), next: tokenFrom(text, at)}
	made := part(r)
	if e = check(made); e != api.OK {
		return tree, 0, e
	}
	return made, r.next.at, api.OK
}

// parse returns the tree that part makes of all tokens.
func parse[T any](text string, part func(r *reader) T, check func(tree T) api.Errno) (T, int, api.Errno) {
	tree, place, e := read(text, 0, func(r *reader) T {
		made := part(r)
		if !r.isAtEnd() {
			r.leave()
		}
		return made
	}, check)
	if e == api.OK {
		place = 0
	}
	return tree, place, e
}

func (r *reader) leave() { panic(wrong(r.next.at)) }

func (r *reader) isAtEnd() bool { return r.next.at == len(r.text) }

func (r *reader) advance() { r.next = tokenFrom(r.text, r.next.at+len(r.next.text)) }

// take reads the next token if it has this text.
func (r *reader) take(text string) bool {
	if r.next.text != text {
		return false
	}
	r.advance()
	return true
}

func (r *reader) expect(text string) {
	if !r.take(text) {
		r.leave()
	}
}

// list reads parts with commas between them, in parentheses.
func list[T any](r *reader, part func() T) []T {
	r.expect("(")
	if r.take(")") {
		return nil
	}
	l := []T{part()}
	for r.take(",") {
		l = append(l, part())
	}
	r.expect(")")
	return l
}

func (r *reader) name() string {
	if !Name(r.next.text) {
		r.leave()
	}
	name := strings.Clone(r.next.text)
	r.advance()
	return name
}

// integer reads the number of an integer, whose sign is read already.
func (r *reader) integer(sign int64) api.Exp {
	digits := r.next.text
	size, err := strconv.ParseInt(digits, 10, 64)
	isZero, beginsWithZero := digits == "0" && sign > 0, digits[0] == '0'
	if err != nil || size > api.MaxValue || beginsWithZero && !isZero {
		r.leave()
	}
	r.advance()
	return api.Exp{Kind: api.ExInt, Int: sign * size}
}

func (r *reader) exp() api.Exp {
	x := r.binary(rankOr)
	if !r.take("?") {
		return x
	}
	yes := r.exp()
	r.expect(":")
	return operation(api.ExIf, x, yes, r.exp())
}

func operation(kind int, parts ...api.Exp) api.Exp { return api.Exp{Kind: kind, Args: parts} }

// binary reads operations of a rank, the parts of which bind more tightly.
func (r *reader) binary(rank int) api.Exp {
	if rank == rankUnary {
		return r.unary()
	}
	x := r.binary(rank + 1)
	for {
		kind, isThere := r.operators[rank][r.next.text]
		if !isThere {
			return x
		}
		r.advance()
		x = operation(kind, x, r.binary(rank+1))
		if rank == rankCompare { // a comparison is no part of another one
			return x
		}
	}
}

func (r *reader) unary() api.Exp {
	switch {
	case r.take("!"):
		return operation(api.ExNot, r.unary())
	case !r.take("-"):
		return r.primary()
	case r.next.isNumber():
		return r.integer(-1)
	}
	return operation(api.ExNeg, r.unary())
}

func (r *reader) primary() api.Exp {
	if r.next.isNumber() {
		return r.integer(1)
	}
	if r.take("(") {
		x := r.exp()
		r.expect(")")
		return x
	}
	name := r.name()
	if r.next.text == "(" {
		return api.Exp{Kind: api.ExCall, Name: name, Args: list(r, r.exp)}
	}
	return api.Exp{Kind: api.ExName, Name: name}
}

func (r *reader) funcs() []api.Func {
	var l []api.Func
	for !r.isAtEnd() {
		l = append(l, r.function())
	}
	return l
}

func (r *reader) function() api.Func {
	r.expect("func")
	return api.Func{Name: r.name(), Params: list(r, r.name), Body: r.block()}
}

func (r *reader) block() []api.Stmt {
	var l []api.Stmt
	r.expect("{")
	for !r.take("}") {
		l = append(l, r.stmt())
	}
	return l
}

func (r *reader) stmt() api.Stmt {
	switch {
	case r.take("var"):
		return r.assignment(api.StVar)
	case r.take("if"):
		s := api.Stmt{Kind: api.StIf, Val: r.condition(), Body: r.block()}
		if r.take("else") {
			s.Else = r.block()
		}
		return s
	case r.take("while"):
		return api.Stmt{Kind: api.StWhile, Val: r.condition(), Body: r.block()}
	case r.take("return"):
		return api.Stmt{Kind: api.StReturn, Val: r.lastExp()}
	}
	return r.assignment(api.StSet)
}

func (r *reader) assignment(kind int) api.Stmt {
	name := r.name()
	r.expect("=")
	return api.Stmt{Kind: kind, Name: name, Val: r.lastExp()}
}

// lastExp reads the expression with which a statement ends.
func (r *reader) lastExp() api.Exp {
	x := r.exp()
	r.expect(";")
	return x
}

func (r *reader) condition() api.Exp {
	r.expect("(")
	x := r.exp()
	r.expect(")")
	return x
}

package syntax

import "foliot/api"

// Exp reads an expression.
func (r *Reader) Exp() api.Exp {
	x := r.binary(RankOr)
	if !r.Take("?") {
		return x
	}
	yes := r.Exp()
	r.Expect(":")
	return operation(api.ExIf, x, yes, r.Exp())
}

func operation(kind int, parts ...api.Exp) api.Exp { return api.Exp{Kind: kind, Args: parts} }

// binary reads operations of a rank, the parts of which bind more tightly.
func (r *Reader) binary(rank int) api.Exp {
	if rank == RankUnary {
		return r.unary()
	}
	x := r.binary(rank + 1)
	for {
		kind, isThere := r.operators[rank][r.next.text]
		if !isThere {
			return x
		}
		r.Advance()
		x = operation(kind, x, r.binary(rank+1))
		if rank == RankCompare { // a comparison is no part of another one
			return x
		}
	}
}

func (r *Reader) unary() api.Exp {
	switch {
	case r.Take("!"):
		return operation(api.ExNot, r.unary())
	case !r.Take("-"):
		return r.primary()
	case r.next.isNumber():
		return number(r.integer(-1))
	}
	return operation(api.ExNeg, r.unary())
}

func number(n int64) api.Exp { return api.Exp{Kind: api.ExInt, Int: n} }

func (r *Reader) primary() api.Exp {
	if r.next.isNumber() {
		return number(r.integer(1))
	}
	if r.Take("(") {
		x := r.Exp()
		r.Expect(")")
		return x
	}
	name := r.Name()
	if r.next.text == "(" {
		return api.Exp{Kind: api.ExCall, Name: name, Args: inParentheses(r, r.Exp)}
	}
	return api.Exp{Kind: api.ExName, Name: name}
}

// inParentheses reads parts with commas between them, or none.
func inParentheses[T any](r *Reader, part func() T) []T {
	r.Expect("(")
	if r.Take(")") {
		return nil
	}
	l := List(r, ",", part)
	r.Expect(")")
	return l
}

// Functions reads functions up to the end of the text.
func (r *Reader) Functions() []api.Func {
	var l []api.Func
	for !r.IsAtEnd() {
		l = append(l, r.Function())
	}
	return l
}

// Function reads a function.
func (r *Reader) Function() api.Func {
	r.Expect("func")
	return api.Func{Name: r.Name(), Params: inParentheses(r, r.Name), Body: r.block()}
}

func (r *Reader) block() []api.Stmt {
	var l []api.Stmt
	r.Expect("{")
	for !r.Take("}") {
		l = append(l, r.statement())
	}
	return l
}

func (r *Reader) statement() api.Stmt {
	switch {
	case r.Take("var"):
		return r.assignment(api.StVar)
	case r.Take("if"):
		s := api.Stmt{Kind: api.StIf, Val: r.condition(), Body: r.block()}
		if r.Take("else") {
			s.Else = r.block()
		}
		return s
	case r.Take("while"):
		return api.Stmt{Kind: api.StWhile, Val: r.condition(), Body: r.block()}
	case r.Take("return"):
		return api.Stmt{Kind: api.StReturn, Val: r.lastExp()}
	}
	return r.assignment(api.StSet)
}

func (r *Reader) assignment(kind int) api.Stmt {
	name := r.Name()
	r.Expect("=")
	return api.Stmt{Kind: kind, Name: name, Val: r.lastExp()}
}

// lastExp reads the expression with which a statement ends.
func (r *Reader) lastExp() api.Exp {
	x := r.Exp()
	r.Expect(";")
	return x
}

func (r *Reader) condition() api.Exp {
	r.Expect("(")
	x := r.Exp()
	r.Expect(")")
	return x
}

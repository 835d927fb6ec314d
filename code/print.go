package code

import (
	"strconv"
	"strings"

	"foliot/api"
	"foliot/syntax"
)

// printer writes canonical texts of what Check has found to be well-formed and small.
type printer struct {
	signs map[int]string // of operations, by kind
	ranks map[int]int    // by kind
	text  strings.Builder
}

func newPrinter() *printer {
	p := &printer{
		signs: map[int]string{api.ExNeg: "-", api.ExNot: "!"},
		ranks: map[int]int{
			api.ExIf: syntax.RankIf, api.ExNeg: syntax.RankUnary, api.ExNot: syntax.RankUnary,
			api.ExInt: syntax.RankPrimary, api.ExName: syntax.RankPrimary, api.ExCall: syntax.RankPrimary,
		},
	}
	for rank, kinds := range syntax.BinaryOperators() {
		for sign, kind := range kinds {
			p.signs[kind], p.ranks[kind] = sign, rank
		}
	}
	return p
}

func (p *printer) exp(x api.Exp) string {
	switch x.Kind {
	case api.ExInt:
		return strconv.FormatInt(x.Int, 10)
	case api.ExName:
		return x.Name
	case api.ExCall:
		return x.Name + "(" + p.exps(x.Args) + ")"
	case api.ExIf:
		return p.part(x.Args[0], syntax.RankIf+1) + " ? " + p.exp(x.Args[1]) + " : " + p.exp(x.Args[2])
	case api.ExNeg, api.ExNot:
		return p.signs[x.Kind] + p.signed(x.Kind, x.Args[0])
	}
	left, right := p.ranks[x.Kind], p.ranks[x.Kind]+1
	if left == syntax.RankCompare { // a comparison is no part of another one
		left = right
	}
	return p.part(x.Args[0], left) + " " + p.signs[x.Kind] + " " + p.part(x.Args[1], right)
}

func (p *printer) exps(l []api.Exp) string {
	var texts []string
	for _, x := range l {
		texts = append(texts, p.exp(x))
	}
	return strings.Join(texts, ", ")
}

// part returns the text of an expression at a place that demands a rank.
func (p *printer) part(x api.Exp, rank int) string {
	if p.ranks[x.Kind] < rank {
		return "(" + p.exp(x) + ")"
	}
	return p.exp(x)
}

// signed returns the text of an expression behind a sign. A number directly
// behind a - would be read as a negative one.
func (p *printer) signed(kind int, x api.Exp) string {
	if kind == api.ExNeg && x.Kind == api.ExInt && x.Int >= 0 {
		return p.part(x, syntax.RankPrimary+1)
	}
	return p.part(x, syntax.RankUnary)
}

func (p *printer) line(depth int, parts ...string) {
	p.text.WriteString(strings.Repeat("\t", depth))
	for _, part := range parts {
		p.text.WriteString(part)
	}
	p.text.WriteByte('\n')
}

func (p *printer) function(f api.Func) {
	p.line(0, "func ", f.Name, "(", strings.Join(f.Params, ", "), ") {")
	p.stmts(f.Body, 1)
	p.line(0, "}")
}

func (p *printer) stmts(l []api.Stmt, depth int) {
	for _, s := range l {
		p.stmt(s, depth)
	}
}

func (p *printer) stmt(s api.Stmt, depth int) {
	value := p.exp(s.Val)
	switch s.Kind {
	case api.StVar:
		p.line(depth, "var ", s.Name, " = ", value, ";")
	case api.StSet:
		p.line(depth, s.Name, " = ", value, ";")
	case api.StReturn:
		p.line(depth, "return ", value, ";")
	case api.StWhile:
		p.line(depth, "while (", value, ") {")
		p.stmts(s.Body, depth+1)
		p.line(depth, "}")
	case api.StIf:
		p.line(depth, "if (", value, ") {")
		p.stmts(s.Body, depth+1)
		if len(s.Else) > 0 {
			p.line(depth, "} else {")
			p.stmts(s.Else, depth+1)
		}
		p.line(depth, "}")
	}
}

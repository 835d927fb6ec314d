package code

import "foliot/api"

// The ranks of expressions: one of a greater rank binds more tightly.
const (
	rankIf = iota
	rankOr
	rankAnd
	rankCompare
	rankSum
	rankProduct
	rankUnary
	rankPrimary
)

// binaries are, for each rank, the kinds of operations with two parts by their signs.
type binaries [rankUnary]map[string]int

func binaryOperators() binaries {
	return binaries{
		rankOr:  {"||": api.ExOr},
		rankAnd: {"&&": api.ExAnd},
		rankCompare: {
			"<": api.ExLt, "<=": api.ExLe, "==": api.ExEq,
			"!=": api.ExNe, ">=": api.ExGe, ">": api.ExGt,
		},
		rankSum:     {"+": api.ExAdd, "-": api.ExSub},
		rankProduct: {"*": api.ExMul, "/": api.ExDiv, "%": api.ExMod},
	}
}

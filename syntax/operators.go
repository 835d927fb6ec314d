package syntax

import "foliot/api"

// The ranks of expressions: one of a greater rank binds more tightly.
const (
	RankIf = iota
	RankOr
	RankAnd
	RankCompare
	RankSum
	RankProduct
	RankUnary
	RankPrimary
)

// Binaries are, for each rank, the kinds of operations with two parts by their signs.
type Binaries [RankUnary]map[string]int

func BinaryOperators() Binaries {
	return Binaries{
		RankOr:  {"||": api.ExOr},
		RankAnd: {"&&": api.ExAnd},
		RankCompare: {
			"<": api.ExLt, "<=": api.ExLe, "==": api.ExEq,
			"!=": api.ExNe, ">=": api.ExGe, ">": api.ExGt,
		},
		RankSum:     {"+": api.ExAdd, "-": api.ExSub},
		RankProduct: {"*": api.ExMul, "/": api.ExDiv, "%": api.ExMod},
	}
}

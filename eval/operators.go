package eval

import "foliot/api"

// parts evaluates a part of an operation, by its number.
type parts func(k int) int64

// operators do the operations, by their kinds, and evaluate the parts that they
// need. Two parts stand in one expression where the first one does not decide,
// as Go calls functions from left to right.
func operators() map[int]func(part parts) int64 {
	return map[int]func(part parts) int64{
		api.ExNeg: func(part parts) int64 { return -part(0) },
		api.ExNot: func(part parts) int64 { return truth(part(0) == 0) },
		api.ExAdd: func(part parts) int64 { return part(0) + part(1) },
		api.ExSub: func(part parts) int64 { return part(0) - part(1) },
		api.ExMul: func(part parts) int64 { return part(0) * part(1) },
		api.ExDiv: func(part parts) int64 { return part(0) / divisor(part(1)) },
		api.ExMod: func(part parts) int64 { return part(0) % divisor(part(1)) },
		api.ExLt:  func(part parts) int64 { return truth(part(0) < part(1)) },
		api.ExLe:  func(part parts) int64 { return truth(part(0) <= part(1)) },
		api.ExEq:  func(part parts) int64 { return truth(part(0) == part(1)) },
		api.ExNe:  func(part parts) int64 { return truth(part(0) != part(1)) },
		api.ExGe:  func(part parts) int64 { return truth(part(0) >= part(1)) },
		api.ExGt:  func(part parts) int64 { return truth(part(0) > part(1)) },
		api.ExAnd: func(part parts) int64 { return truth(part(0) != 0 && part(1) != 0) },
		api.ExOr:  func(part parts) int64 { return truth(part(0) != 0 || part(1) != 0) },
		api.ExIf: func(part parts) int64 {
			if part(0) != 0 {
				return part(1)
			}
			return part(2)
		},
	}
}

func truth(is bool) int64 {
	if is {
		return 1
	}
	return 0
}

// divisor returns a number by which something is divided.
func divisor(n int64) int64 {
	if n == 0 {
		leave(api.ErrMath)
	}
	return n
}

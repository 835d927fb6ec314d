package eval

import (
	"fmt"
	"math/big"
	"testing"

	"foliot/api"
)

// bit is the value of a comparison.
func bit(is bool) *big.Int {
	if is {
		return big.NewInt(1)
	}
	return big.NewInt(0)
}

// The chapter's words about an operation with two parts, with numbers of any
// size; nil if it is not defined.
func inWords(sign string, a, b *big.Int) *big.Int {
	order, r := a.Cmp(b), new(big.Int)
	switch sign {
	case "+":
		return r.Add(a, b)
	case "-":
		return r.Sub(a, b)
	case "*":
		return r.Mul(a, b)
	case "<":
		return bit(order < 0)
	case "<=":
		return bit(order <= 0)
	case "==":
		return bit(order == 0)
	case "!=":
		return bit(order != 0)
	case ">=":
		return bit(order >= 0)
	case ">":
		return bit(order > 0)
	case "&&":
		return bit(a.Sign() != 0 && b.Sign() != 0)
	case "||":
		return bit(a.Sign() != 0 || b.Sign() != 0)
	}
	if b.Sign() == 0 {
		return nil
	}
	r.Div(r.Abs(a), new(big.Int).Abs(b)) // rounded down, as it is not negative
	if a.Sign()*b.Sign() < 0 {
		r.Neg(r)
	}
	if sign == "%" {
		return r.Sub(a, r.Mul(b, r))
	}
	return r
}

// ending returns how an operation with this result ends.
func ending(result *big.Int, steps int) outcome {
	switch {
	case result == nil:
		return outcome{0, api.ErrMath, steps}
	case result.CmpAbs(big.NewInt(greatest)) > 0:
		return outcome{0, api.ErrRange, steps}
	}
	return outcome{result.Int64(), api.OK, steps}
}

var edgeValues = []int64{
	0, 1, -1, 2, -2, 3, -3, 7, -7, 10, 46340, -46340, 46341, -46341, 65536, -65536, 32768, -32768,
	1 << 30, -1 << 30, 1<<30 + 1, greatest - 1, -greatest + 1, greatest, -greatest,
}

// P10.1, P10.2: all operations with two parts, of numbers up to the greatest ones.
func TestTwoParts(t *testing.T) {
	for _, sign := range []string{"+", "-", "*", "/", "%", "<", "<=", "==", "!=", ">=", ">", "&&", "||"} {
		x := tree(t, "v "+sign+" w")
		seen := map[api.Errno]int{}
		for _, a := range edgeValues {
			for _, b := range edgeValues {
				steps := 3
				if sign == "&&" && a == 0 || sign == "||" && a != 0 {
					steps = 2
				}
				want := ending(inWords(sign, big.NewInt(a), big.NewInt(b)), steps)
				seen[want.e]++
				if got := outcomeOf(t, x, names, []int64{a, b}, nil); got != want {
					t.Errorf("%d %s %d: %+v, not %+v", a, sign, b, got, want)
				}
				text := fmt.Sprintf("%d %s %d", a, sign, b)
				if got := outcomeOf(t, tree(t, text), nil, nil, nil); got != want {
					t.Errorf("%s: %+v, not %+v", text, got, want)
				}
			}
		}
		if seen[api.OK] < 100 {
			t.Errorf("%s: %v", sign, seen)
		}
	}
}

// P10.1, P10.2: the operations with one part.
func TestOnePart(t *testing.T) {
	for _, a := range edgeValues {
		for text, want := range map[string]int64{"v": a, "-v": -a, "!v": bit(a == 0).Int64()} {
			x := tree(t, text)
			steps := 1 + len(x.Args)
			if got := outcomeOf(t, x, names, []int64{a, 0}, nil); got != (outcome{want, api.OK, steps}) {
				t.Errorf("%s of %d: %+v, not %d", text, a, got, want)
			}
		}
	}
	check(t, "!!v", "", outcome{1, api.OK, 3})
	check(t, "--v", "", outcome{7, api.OK, 3})
	check(t, "-(-2147483648)", "", outcome{greatest, api.OK, 2})
	check(t, "- -2147483648 + 1", "", outcome{0, api.ErrRange, 4})
}

// P10.1: the chapter's examples, and the last integers.
func TestValueExamples(t *testing.T) {
	for text, want := range map[string]outcome{
		"v / -2": {-3, api.OK, 3}, "v % -2": {1, api.OK, 3}, "-v % 2": {-1, api.OK, 4}, "v / 0": {0, api.ErrMath, 3}, "0 && v / 0": {0, api.OK, 2},
		"v * 306783378": {2147483646, api.OK, 3}, "v * 306783379": {0, api.ErrRange, 3},
		"2147483648": {greatest, api.OK, 1}, "-2147483648": {-greatest, api.OK, 1},
		"2147483647 + 1": {greatest, api.OK, 3}, "2147483648 + 1": {0, api.ErrRange, 3}, "-2147483648 - 1": {0, api.ErrRange, 3}, "-2147483647 - 1": {-greatest, api.OK, 3},
		"-2147483648 / -1": {greatest, api.OK, 3}, "-2147483648 % -1": {0, api.OK, 3}, "v % 0": {0, api.ErrMath, 3}, "0 / 0": {0, api.ErrMath, 3}, "0 % 0": {0, api.ErrMath, 3},
	} {
		check(t, text, "", want)
	}
}

// P10.1: each operation within an expression has to be in range, not only the whole.
func TestRangeOfParts(t *testing.T) {
	for text, want := range map[string]outcome{
		"2147483648 + 1 - 1": {0, api.ErrRange, 4}, "2147483648 - 1 + 1": {greatest, api.OK, 5}, "2147483648 * 2 / 2": {0, api.ErrRange, 4}, "2147483648 * 2147483648 / 0": {0, api.ErrRange, 4},
		"0 * (2147483648 + v)": {0, api.ErrRange, 5}, "!(2147483648 + v)": {0, api.ErrRange, 4}, "(2147483648 + v) > 0": {0, api.ErrRange, 4}, "2147483648 + v && 1": {0, api.ErrRange, 4},
		"-2147483648 * 2147483648": {0, api.ErrRange, 3}, "65536 * 32768": {greatest, api.OK, 3}, "65536 * -32768": {-greatest, api.OK, 3}, "65537 * 32768": {0, api.ErrRange, 3},
	} {
		check(t, text, "", want)
	}
}

// P10.1, P10.2: parts are evaluated from left to right, up to the first error.
func TestOrderOfParts(t *testing.T) {
	const undefined, tooLarge = "v / 0", "w * 2147483648"
	for _, sign := range []string{"+", "-", "*", "/", "%", "<", "<=", "==", "!=", ">=", ">"} {
		check(t, "("+undefined+") "+sign+" ("+tooLarge+")", "", outcome{0, api.ErrMath, 4})
		check(t, "("+tooLarge+") "+sign+" ("+undefined+")", "", outcome{0, api.ErrRange, 4})
		check(t, "v "+sign+" ("+undefined+")", "", outcome{0, api.ErrMath, 5})
		check(t, "v "+sign+" ("+tooLarge+")", "", outcome{0, api.ErrRange, 5})
	}
	check(t, "0 / (v / 0 + w * 2147483648)", "", outcome{0, api.ErrMath, 6})
	check(t, "(v / 0 < 1) + (w * 2147483648 < 1)", "", outcome{0, api.ErrMath, 5})
	check(t, "v * w - (w - v) * (v + w) % 5", "", outcome{31, api.OK, 13})
}

// P10.1, P10.2: && and || leave their second part out if the first one decides, ? : one of its parts.
func TestPartsThatAreLeftOut(t *testing.T) {
	for text, want := range map[string]outcome{
		"0 && 1": {0, api.OK, 2}, "1 && 0": {0, api.OK, 3}, "5 && -3": {1, api.OK, 3}, "-1 && 0": {0, api.OK, 3},
		"0 || 0": {0, api.OK, 3}, "0 || -9": {1, api.OK, 3}, "-9 || 0": {1, api.OK, 2}, "v || w": {1, api.OK, 2},
		"0 && v / 0": {0, api.OK, 2}, "1 && v / 0": {0, api.ErrMath, 5}, "1 || v / 0": {1, api.OK, 2}, "0 || v / 0": {0, api.ErrMath, 5},
		"v / 0 && 0": {0, api.ErrMath, 4}, "v / 0 || 1": {0, api.ErrMath, 4},
		"0 && 1 || v": {1, api.OK, 4}, "v || 0 && w / 0": {1, api.OK, 2}, "0 && v / 0 && w / 0": {0, api.OK, 3},
		"v ? 2 : v / 0": {2, api.OK, 3}, "0 ? v / 0 : 3": {3, api.OK, 3}, "-1 ? 2 : 3": {2, api.OK, 3}, "0 ? 2 : 3": {3, api.OK, 3},
		"v ? v / 0 : 3": {0, api.ErrMath, 5}, "0 ? 3 : v / 0": {0, api.ErrMath, 5}, "v / 0 ? 1 : 2": {0, api.ErrMath, 4},
		"v ? -2147483648 : 1": {-greatest, api.OK, 3}, "v > w ? v - w : w - v": {3, api.OK, 7}, "0 ? 1 : 0 ? 2 : 3": {3, api.OK, 5}, "(1 ? 0 : 1) ? 2 : 3": {3, api.OK, 5},
	} {
		check(t, text, "", want)
	}
}

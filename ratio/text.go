package ratio

import (
	"math"
	"strconv"
	"strings"

	"foliot/api"
)

// Text returns the text of a ratio, as "-7/2" or "3".
func Text(a api.Ratio) (string, api.Errno) {
	if !Valid(a) {
		return "", api.ErrArg
	}
	num := strconv.FormatInt(a.Num, 10)
	if a.Den == 1 {
		return num, api.OK
	}
	text := make([]byte, len(num), len(num)+len("/2147483647"))
	copy(text, num)
	text = append(text, '/')
	return string(strconv.AppendInt(text, a.Den, 10)), api.OK
}

// Read returns the ratio of the number that a text says, in lowest terms or not.
func Read(s string) (api.Ratio, api.Errno) {
	top, bottom, fraction := strings.Cut(s, "/")
	if !fraction {
		bottom = "1"
	}
	digits, negative := strings.CutPrefix(top, "-")
	if !isDecimal(digits) || !isDecimal(bottom) || bottom == "0" || negative && digits == "0" {
		return api.Ratio{}, api.ErrForm
	}
	num, numFits := value(digits)
	den, denFits := value(bottom)
	if !numFits || !denFits {
		return api.Ratio{}, api.ErrRange
	}
	if negative {
		num = -num
	}
	return Make(num, den)
}

// isDecimal tells whether s is the decimal text of an integer from 0 on.
func isDecimal(s string) bool {
	if s == "" || s[0] == '0' && len(s) > 1 {
		return false
	}
	for i := range len(s) {
		if s[i] < '0' || s[i] > '9' {
			return false
		}
	}
	return true
}

// value returns the number that digits say, and whether it is at most 2^63 - 1.
func value(digits string) (int64, bool) {
	var n int64
	for i := range len(digits) {
		d := int64(digits[i] - '0')
		if n > (math.MaxInt64-d)/10 {
			return 0, false
		}
		n = 10*n + d
	}
	return n, true
}

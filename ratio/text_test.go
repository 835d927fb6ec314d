package ratio

import (
	"math/big"
	"strings"
	"testing"

	"foliot/api"
)

// P1.5
func TestText(t *testing.T) {
	for a, want := range map[api.Ratio]string{
		r(-7, 2): "-7/2", r(3, 1): "3", r(0, 1): "0", r(-1, 1): "-1", r(10, 1): "10", r(1, 10): "1/10", r(100, 201): "100/201",
		r(big31, 1): "2147483647", r(-big31, 1): "-2147483647", r(-1, big31): "-1/2147483647", r(-big31, big31-1): "-2147483647/2147483646",
	} {
		if s, e := Text(a); s != want || e != api.OK {
			t.Errorf("Text(%v): %q, %d", a, s, e)
		}
	}
}

// P1.5
func TestRead(t *testing.T) {
	for s, want := range map[string]api.Ratio{
		"4/2": r(2, 1), "-3": r(-3, 1), "0": r(0, 1), "0/9": r(0, 1), "-6/4": r(-3, 2), "5/1": r(5, 1), "1/10": r(1, 10),
		"2147483647": r(big31, 1), "-2147483647": r(-big31, 1), "-1/2147483647": r(-1, big31),
		"4294967296/4294967296":                    r(1, 1),
		"9223372036854775807/9223372036854775807":  r(1, 1),
		"-9223372036854775807/9223372036854775807": r(-1, 1),
		"0/9223372036854775807":                    r(0, 1),
	} {
		got, e := Read(s)
		checkRatio(t, got, e, want, api.OK, "Read", s)
	}
}

// P1.5
func TestReadForm(t *testing.T) {
	digits := strings.Repeat("9", 40)
	for _, s := range []string{
		"", "-", "/", "-0", "-0/1", "01", "-01", "00", "007/2", "+1", "--1", "-/2", "/2", "-1/-2",
		"1/", "1/0", "0/0", "1/00", "1/01", "1/-2", "1/+2", "1/-0", "1/2/3", "1//2", "1/2/", "/1/2",
		" 1", "1 ", "1 /2", "1/ 2", "1\n", "1.5", "1e3", "0x1", "1_000", "a", "1a", "1/2a", "1:", "1;", "1\x00", "\xff", "１", "1/２", "−1",
		digits + "/0", digits + "x", "0" + digits, digits + "/", "1/0" + digits, "1/-" + digits, digits + "/" + digits + "/1",
	} {
		got, e := Read(s)
		checkRatio(t, got, e, api.Ratio{}, api.ErrForm, "Read", s)
	}
}

// P1.5
func TestReadRange(t *testing.T) {
	digits := strings.Repeat("9", 5000)
	for _, s := range []string{
		"2147483648", "-2147483648", "1/2147483648", "2147483648/3", "9223372036854775807", "-9223372036854775807",
		// Above 2^63 - 1 before anything is cancelled.
		"9223372036854775808", "-9223372036854775808", "9223372036854775808/9223372036854775808",
		"-9223372036854775808/9223372036854775808", "-9223372036854775808/4294967296", "9223372036854775810/9223372036854775810",
		"18446744073709551616", "18446744073709551617/1", "1/18446744073709551617", "0/9223372036854775808", "5/9223372036854775808",
		"92233720368547758070", "99999999999999999999", digits, "-" + digits, "1/" + digits, "0/" + digits, digits + "/" + digits,
	} {
		got, e := Read(s)
		checkRatio(t, got, e, api.Ratio{}, api.ErrRange, "Read", s)
	}
}

// P1.5: every short text over the bytes that matter, against a slow reader.
func TestReadAllShortTexts(t *testing.T) {
	integer := func(s string) bool {
		x, ok := new(big.Int).SetString(s, 10)
		return ok && x.String() == s
	}
	var try func(s string)
	try = func(s string) {
		top, bottom, cut := strings.Cut(s, "/")
		want, wantE := api.Ratio{}, api.ErrForm
		if !cut {
			bottom = "1"
		}
		if integer(top) && integer(bottom) && bottom != "0" && bottom[0] != '-' {
			x, _ := new(big.Rat).SetString(top + "/" + bottom)
			want, wantE = expected(x)
		}
		got, e := Read(s)
		checkRatio(t, got, e, want, wantE, "Read", s)
		if len(s) < 6 {
			for _, c := range "012-/ +" {
				try(s + string(c))
			}
		}
	}
	try("")
}

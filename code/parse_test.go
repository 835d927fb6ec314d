package code

import (
	"strings"
	"testing"

	"foliot/api"
)

// parsed checks the tree that ParseExp makes of a text.
func parsed(t *testing.T, text string, want api.Exp) {
	t.Helper()
	x, at, e := ParseExp(text)
	checkExp(t, "ParseExp", text, x, at, e, want, 0, api.OK)
}

// P8.2: the tree of each kind of expression.
func TestParseKinds(t *testing.T) {
	a, b, c := name("a"), name("b"), name("c")
	for text, want := range map[string]api.Exp{
		"0":                 num(0),
		"7":                 num(7),
		"10":                num(10),
		"2147483648":        num(1 << 31),
		"a":                 a,
		longestName:         name(longestName),
		"iff":               name("iff"),
		"f()":               call("f"),
		"f(a)":              call("f", a),
		"f (a,b, c )":       call("f", a, b, c),
		"f(1, 2, 3, 4)":     call("f", num(1), num(2), num(3), num(4)),
		"f(a ? b : c, g())": call("f", exp(api.ExIf, a, b, c), call("g")),
		"(a)":               a,
		"((a))":             a,
		"(-1)":              num(-1),
		"a ? b : c":         exp(api.ExIf, a, b, c),
		"-a":                exp(api.ExNeg, a),
		"!a":                exp(api.ExNot, a),
		"!!a":               exp(api.ExNot, exp(api.ExNot, a)),
		"-!-a":              exp(api.ExNeg, exp(api.ExNot, exp(api.ExNeg, a))),
		"-f()":              exp(api.ExNeg, call("f")),
		"!(a)":              exp(api.ExNot, a),
		"!1":                exp(api.ExNot, num(1)),
		"!-1":               exp(api.ExNot, num(-1)),
	} {
		parsed(t, text, want)
	}
	for kind, sign := range signOf {
		if partsOf[kind] == 2 {
			parsed(t, "a"+sign+"b", exp(kind, a, b))
			parsed(t, "1 "+sign+" -1", exp(kind, num(1), num(-1)))
			parsed(t, "(a)"+sign+"(b)", exp(kind, a, b))
		}
	}
}

// P8.2: a - in front of a number belongs to it, where no left part stands before it.
func TestParseMinus(t *testing.T) {
	a, one, minus := name("a"), num(1), num(-1)
	for text, want := range map[string]api.Exp{
		"-1":              minus,
		"- 1":             minus,
		"-\n// remark\n1": minus,
		"-2147483648":     num(-1 << 31),
		"--1":             exp(api.ExNeg, minus),
		"---1":            exp(api.ExNeg, exp(api.ExNeg, minus)),
		"-(1)":            exp(api.ExNeg, one),
		"-(-1)":           exp(api.ExNeg, minus),
		"-(0)":            exp(api.ExNeg, num(0)),
		"a-1":             exp(api.ExSub, a, one),
		"a -1":            exp(api.ExSub, a, one),
		"1-1":             exp(api.ExSub, one, one),
		"a--1":            exp(api.ExSub, a, minus),
		"a---1":           exp(api.ExSub, a, exp(api.ExNeg, minus)),
		"a-0":             exp(api.ExSub, a, num(0)),
		"a*-1":            exp(api.ExMul, a, minus),
		"a<-1":            exp(api.ExLt, a, minus),
		"-1-1":            exp(api.ExSub, minus, one),
		"-1*a":            exp(api.ExMul, minus, a),
		"-a-1":            exp(api.ExSub, exp(api.ExNeg, a), one),
		"f(-1,-1)":        call("f", minus, minus),
		"a?-1:-1":         exp(api.ExIf, a, minus, minus),
		"f()-1":           exp(api.ExSub, call("f"), one),
		"(a)-1":           exp(api.ExSub, a, one),
		"(-1)-1":          exp(api.ExSub, minus, one),
	} {
		parsed(t, text, want)
	}
	for text, at := range map[string]int{"-0": 1, "- 0": 2, "-01": 1, "-2147483649": 1, "--0": 2, "a--0": 3, "a*-0": 3, "(-0)": 2, "a-01": 2} {
		parseFails(t, text, at, api.ErrSyntax)
	}
}

// P8.2: what binds more tightly, and how operators of one line group.
func TestParseGroups(t *testing.T) {
	a, b, c, d, f := name("a"), name("b"), name("c"), name("d"), name("f")
	for text, want := range map[string]api.Exp{
		"a+b*-3":         exp(api.ExAdd, a, exp(api.ExMul, b, num(-3))),
		"a*b+c":          exp(api.ExAdd, exp(api.ExMul, a, b), c),
		"a-b-c":          exp(api.ExSub, exp(api.ExSub, a, b), c),
		"a-(b-c)":        exp(api.ExSub, a, exp(api.ExSub, b, c)),
		"a/b*c%d":        exp(api.ExMod, exp(api.ExMul, exp(api.ExDiv, a, b), c), d),
		"a-b+c-d":        exp(api.ExSub, exp(api.ExAdd, exp(api.ExSub, a, b), c), d),
		"a||b||c":        exp(api.ExOr, exp(api.ExOr, a, b), c),
		"a&&b&&c":        exp(api.ExAnd, exp(api.ExAnd, a, b), c),
		"a||b&&c":        exp(api.ExOr, a, exp(api.ExAnd, b, c)),
		"a&&b||c":        exp(api.ExOr, exp(api.ExAnd, a, b), c),
		"a<b&&c>=d":      exp(api.ExAnd, exp(api.ExLt, a, b), exp(api.ExGe, c, d)),
		"a+b<c*d":        exp(api.ExLt, exp(api.ExAdd, a, b), exp(api.ExMul, c, d)),
		"(a<b)==c":       exp(api.ExEq, exp(api.ExLt, a, b), c),
		"a!=(b==c)":      exp(api.ExNe, a, exp(api.ExEq, b, c)),
		"!a&&b":          exp(api.ExAnd, exp(api.ExNot, a), b),
		"!a<b":           exp(api.ExLt, exp(api.ExNot, a), b),
		"-a%b":           exp(api.ExMod, exp(api.ExNeg, a), b),
		"-a*-b":          exp(api.ExMul, exp(api.ExNeg, a), exp(api.ExNeg, b)),
		"a?b:c?d:f":      exp(api.ExIf, a, b, exp(api.ExIf, c, d, f)),
		"a?b?c:d:f":      exp(api.ExIf, a, exp(api.ExIf, b, c, d), f),
		"(a?b:c)?d:f":    exp(api.ExIf, exp(api.ExIf, a, b, c), d, f),
		"a||b?c||d:a&&b": exp(api.ExIf, exp(api.ExOr, a, b), exp(api.ExOr, c, d), exp(api.ExAnd, a, b)),
		"(a?b:c)+1":      exp(api.ExAdd, exp(api.ExIf, a, b, c), num(1)),
		"a?b:c+1":        exp(api.ExIf, a, b, exp(api.ExAdd, c, num(1))),
	} {
		parsed(t, text, want)
	}
}

// P8.2: tokens end where the next one begins, and of signs the longer one is taken.
func TestParseTokens(t *testing.T) {
	a, b := name("a"), name("b")
	for text, want := range map[string]api.Exp{
		" \t\r\na \n":               a,
		"a//":                       a,
		"a// remark":                a,
		"//\na":                     a,
		"// a\n// b\n\r\n a // c\n": a,
		"a//b\n+//\xff\x00@\nb//":   exp(api.ExAdd, a, b),
		"a// + b":                   a,
		"a // \r + b":               a,
		"a<=b":                      exp(api.ExLe, a, b),
		"a>=b":                      exp(api.ExGe, a, b),
		"a==b":                      exp(api.ExEq, a, b),
		"a!=b":                      exp(api.ExNe, a, b),
		"a!=!b":                     exp(api.ExNe, a, exp(api.ExNot, b)),
		"a>-b":                      exp(api.ExGt, a, exp(api.ExNeg, b)),
		"A_1b2":                     name("A_1b2"),
		"a9+9":                      exp(api.ExAdd, name("a9"), num(9)),
	} {
		parsed(t, text, want)
	}
	for text, at := range map[string]int{
		"a b": 2, "1a": 1, "1 2": 2, "a_ _": 3, "_a": 0, "a< =b": 3, "a<==b": 3, "a===b": 3, "a! =b": 1, "a!==b": 3, "a->b": 1, "a-->b": 2,
		"a<->b": 2, "a|b": 1, "a|||b": 3, "a&b": 1, "a&&&b": 3, "a| |b": 1,
		"a/ /b": 3, "a..b": 1, "1.5": 1, "a=b": 1, "a;": 1, "a,b": 1, "a:b": 1, "a}": 1, "{a": 0, "a)": 1, "a@": 1, "a\x00": 1, "a\v": 1, "a\f": 1,
		"a\xc2\xa0b": 1, "a\x85": 1, "aä": 1, "a'": 1, "a\"": 1, "a#": 1, "a\\": 1, "a^b": 1, "a~": 1, "a[1]": 1, "a$": 1, "a`": 1,
	} {
		parseFails(t, text, at, api.ErrSyntax)
	}
}

// P8.2: each byte that begins no token is wrong, wherever it stands.
func TestParseBytes(t *testing.T) {
	const known = " \t\r\nabcdefghijklmnopqrstuvwxyzABCDEFGHIJKLMNOPQRSTUVWXYZ0123456789+-*/%<>=!?:;,.(){}"
	for c := range 256 {
		one := string([]byte{byte(c)})
		if strings.Contains(known, one) && c < 128 {
			continue
		}
		for text, at := range map[string]int{one: 0, " " + one: 1, "a " + one: 2, "a +" + one: 3, "1" + one: 1, "f(" + one: 2, "f(a) " + one: 5} {
			parseFails(t, text+" ) ~", at, api.ErrSyntax)
		}
		parseFuncsFails(t, "func f() { "+one, 11, api.ErrSyntax)
		parseFuncsFails(t, one, 0, api.ErrSyntax)
		parseFuncsFails(t, "func f() { } "+one, 13, api.ErrSyntax)
		parsed(t, "a // "+one+one+"\n", name("a"))
	}
}

// P8.2: the first wrong token of what is no expression.
func TestParseWrong(t *testing.T) {
	for text, at := range map[string]int{
		"": 0, " ": 1, "// a": 4, " // a\n": 6, "a +": 3, "a + ": 4, "a + // b": 8, "a < b < c": 6, "a == b != c": 7, "(a < b < c)": 7, "f(1,)": 4,
		"f(,1)": 2, "f(1 2)": 4, "f(": 2, "f(1": 3, "f(1,": 4, "f(1;": 3, "if": 0, "a + if": 4,
		"()": 1, "(a": 2, "(a,b)": 2, ")": 0, "a ? b": 5, "a ? b : ": 8, "a ? : b": 4, "a ? b ; c": 6, "a : b": 2, "? a : b": 0, "a ?? b": 3, "+a": 0,
		"a + + b": 4, "a * * b": 4, "a && || b": 5, "!": 1, "-": 1, "! * a": 2, "a !": 2, "a ! b": 2,
		"1(2)": 1, "(f)(1)": 3, "f()(1)": 3, "a(1)(2)": 4, "-1(2)": 2, "01": 0, "00": 0, "007": 0, "a + 00": 4, "2147483649": 0,
		"99999999999999999999999999": 0, "4294967296": 0, "f(03)": 2, tooLongName: 0, "a + " + tooLongName: 4, "f(" + tooLongName + ")": 2,
		tooLongName + "()":   0,
		"a ? " + tooLongName: 4, strings.Repeat("9", 20000): 0, strings.Repeat("a", 20000): 0, strings.Repeat("0", 20000): 0, "a @ // ^": 2,
		"while": 0, "return a": 0, "var": 0, "func f() { }": 0,
	} {
		parseFails(t, text, at, api.ErrSyntax)
	}
	for _, word := range strings.Fields(reservedWords) {
		parseFails(t, word, 0, api.ErrSyntax)
		parseFails(t, "a * "+word, 4, api.ErrSyntax)
		parseFails(t, "f("+word+"(1))", 2, api.ErrSyntax)
		parsed(t, word+"_", name(word+"_"))
	}
}

// P8.2: a text of up to 20000 bytes, whatever it consists of.
func TestParseLongTexts(t *testing.T) {
	for _, text := range []string{
		strings.Repeat(" ", 20001), "a" + strings.Repeat("\n", 20000), strings.Repeat("@", 20001), strings.Repeat("a+", 10000) + "a",
		"@" + strings.Repeat("x", 1<<20),
	} {
		parseFails(t, text, 0, api.ErrLong)
		parseFuncsFails(t, text, 0, api.ErrLong)
	}
	parsed(t, strings.Repeat(" ", 19999)+"a", name("a"))
	parsed(t, "a//"+strings.Repeat("@", 19997), name("a"))
	parseFails(t, strings.Repeat("\t", 20000), 20000, api.ErrSyntax)
	parseFails(t, "a+"+strings.Repeat(" ", 19997)+"@", 19999, api.ErrSyntax)
}

// P8.2: a tree that is not small is told behind what is wrong, and at the place 0.
func TestParseNotSmall(t *testing.T) {
	sum := func(n int) string { return strings.Repeat("1+", n-1) + "1" }
	wide := strings.Repeat("f(f(1,2,3,4),f(1,2,3,4))+", 22) // with "a", 265 nodes and not deep
	for text, isSmall := range map[string]bool{
		strings.Repeat("-", 29) + "a": true, strings.Repeat("-", 30) + "a": false, strings.Repeat("!", 28) + "-1": true,
		strings.Repeat("-", 29) + "(1)": true, strings.Repeat("-", 30) + "1": true, strings.Repeat("-", 31) + "1": false,
		sum(30): true, sum(31): false, strings.Repeat("(", 9999) + "a" + strings.Repeat(")", 9999): true,
		strings.Repeat("f(", 29) + "a" + strings.Repeat(")", 29): true, strings.Repeat("f(", 30) + "a" + strings.Repeat(")", 30): false,
		"f(1,2,3,4)": true, "f(1,2,3,4,5)": false, "a + f(1,2,3,g(1,2,3,4,5))": false, strings.Repeat("a?b:", 29) + "c": true,
		strings.Repeat("a?b:", 30) + "c": false,
		wide + "a":                       true, "f(" + wide + "a," + wide + "a)": false,
	} {
		x, at, e := ParseExp(text)
		checkErrno(t, text, "ParseExp", e, smallOr(isSmall))
		if at != 0 || (x.Kind != 0) != isSmall {
			t.Errorf("ParseExp of %.40q: %s, %d", text, short(x), at)
		}
		if !isSmall {
			parseFails(t, text+" @", len(text)+1, api.ErrSyntax)
			parseFails(t, text+"+", len(text)+1, api.ErrSyntax)
		}
	}
}

// P8.2, rule R1: texts that are nested as deep as they can be.
func TestParseDeepTexts(t *testing.T) {
	for _, part := range []string{"(", "-", "!", "f(", "a?", "a?b:", "1+(", "f(1,", "-(", "a&&!"} {
		text := strings.Repeat(part, 20000/len(part))
		parseFails(t, text, len(text), api.ErrSyntax)
		parseFuncsFails(t, "func f() { return "+text[:19980/len(part)*len(part)], 18+19980/len(part)*len(part), api.ErrSyntax)
	}
	parseFails(t, strings.Repeat("!", 19999)+"a", 0, api.ErrLong)
	parseFails(t, strings.Repeat("1+", 9999)+"1", 0, api.ErrLong)
	parseFails(t, strings.Repeat("f(", 6000)+strings.Repeat(")", 6000), 0, api.ErrLong)
	for _, part := range []string{"while(1){", "if(1){", "if(1){}else{"} {
		n := 19000 / (len(part) + 1)
		text := "func f(){" + strings.Repeat(part, n)
		parseFuncsFails(t, text, len(text), api.ErrSyntax)
		parseFuncsFails(t, text+strings.Repeat("}", n+1), 0, api.ErrLong)
	}
}

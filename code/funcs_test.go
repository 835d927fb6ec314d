package code

import (
	"strings"
	"testing"

	"foliot/api"
)

func parsedFuncs(t *testing.T, text string, want ...api.Func) {
	t.Helper()
	l, at, e := ParseFuncs(text)
	checkFuncs(t, "ParseFuncs", text, l, at, e, want, 0, api.OK)
}

// parsedBody checks the statements of a function's body.
func parsedBody(t *testing.T, text string, want ...api.Stmt) {
	t.Helper()
	parsedFuncs(t, "func f(){"+text+"}", function("f", nil, want...))
}

// P8.2: functions with their parameters, in their order.
func TestParseFuncs(t *testing.T) {
	for _, text := range []string{"", " \n", "// none", "//\n"} {
		parsedFuncs(t, text)
	}
	parsedFuncs(t, "func f(){}", function("f", nil))
	parsedFuncs(t, "func\nf // remark\n( ) { }\t", function("f", nil))
	parsedFuncs(t, "func f(a){}func g(b,a , b, x_1){}", function("f", []string{"a"}), function("g", []string{"b", "a", "b", "x_1"}))
	parsedFuncs(t, "func f(f) { return f; } func f() { }", function("f", []string{"f"}, gives(name("f"))), function("f", nil))
	parsedFuncs(t, "func "+longestName+"("+longestName+") { }", function(longestName, []string{longestName}))
}

// P8.2: each kind of statement.
func TestParseStatements(t *testing.T) {
	a, one := name("a"), num(1)
	parsedBody(t, "var a = 1;", makes("a", one))
	parsedBody(t, "a = 1 + a;", sets("a", exp(api.ExAdd, one, a)))
	parsedBody(t, "a=-1;a=a?1:a;", sets("a", num(-1)), sets("a", exp(api.ExIf, a, one, a)))
	parsedBody(t, "return a;return f(a);", gives(a), gives(call("f", a)))
	parsedBody(t, "while(a){}", loop(a))
	parsedBody(t, "while (a < 1) { a = 1; return a; } return 1;", loop(exp(api.ExLt, a, one), sets("a", one), gives(a)), gives(one))
	parsedBody(t, "if(a){}", choose(a, nil, nil))
	parsedBody(t, "if(a){}else{}", choose(a, nil, nil))
	parsedBody(t, "if(a){return 1;}else{}", choose(a, stmts(gives(one)), nil))
	parsedBody(t, "if(a){}else{return 1;}", choose(a, nil, stmts(gives(one))))
	parsedBody(t, "if ((a)) { if (1) { } else { return 1; } } else { while (1) { } var b = a; } return a;",
		choose(a, stmts(choose(one, nil, stmts(gives(one)))), stmts(loop(one), makes("b", a))), gives(a))
	parsedBody(t, "var v = v; v = v; var w = a;", makes("v", name("v")), sets("v", name("v")), makes("w", a))
}

// P8.2: the first wrong token of what are no functions.
func TestParseFuncsWrong(t *testing.T) {
	for text, at := range map[string]int{
		"f": 0, "func": 4, "func ": 5, "func 1": 5, "func if": 5, "func f": 6, "func f { }": 7, "func f(": 7, "func f(,": 7, "func f(a": 8,
		"func f(a,": 9, "func f(a,)": 9, "func f(a b)": 9, "func f(a;": 8, "func f(1)": 7, "func f(do)": 7, "func f(a, 2)": 10,
		"func f(a + b)": 9, "func f((": 7, "func f()": 8, "func f() ;": 9, "func f() return": 9, "func f() {": 10, "func f() { // }": 15,
		"func f() { } x": 13, "func f() { } }": 13, "func f() { } ;": 13, "func f() { } func": 17, "func f() { func": 11,
		"func " + tooLongName + "()": 5, "func f(" + tooLongName + ")": 7, "func f(a, " + tooLongName + ")": 10, "1": 0, "{": 0, "var a = 1;": 0,
		"@": 0, "funcs": 0, "func f() { } funcs": 13, "Func f() { }": 0,
	} {
		parseFuncsFails(t, text, at, api.ErrSyntax)
	}
	const head = "func f(){"
	for body, at := range map[string]int{
		";": 0, "{": 0, "1": 0, "(": 0, "else": 0, "else {}": 0, "do": 0, "in = 1;": 0, tooLongName + " = 1;": 0, "a": 1, "a;": 1, "a = ": 4,
		"a = ;": 4, "a = 1": 5, "a = 1 }": 6, "a == 1;": 2, "a += 1;": 2, "a(1);": 1, "a = b = 1;": 6, "a = 1, ": 5, "a = if;": 4,
		"var": 3, "var 1": 4, "var if": 4, "var " + tooLongName: 4, "var a": 5, "var a;": 5, "var a == 1;": 6, "var a = 1": 9, "var a = 1)": 9,
		"var a = ;": 8, "var a, b = 1;": 5, "vara = 1 1": 9,
		"return": 6, "return;": 6, "return }": 7, "return 1": 8, "return 1 }": 9, "return 1 2;": 9, "return (1;": 9, "return a = 1;": 9,
		"return1;": 7,
		"while":    5, "while 1": 6, "while (": 7, "while ()": 7, "while (1": 8, "while (1;": 8, "while (1, 2)": 8, "while (1)": 9, "while (1);": 9,
		"while (1) a = 1;": 10, "while (1) {": 11, "while (1) { } else": 14, "while (1) { a = 1 }": 18,
		"if": 2, "if 1": 3, "if (": 4, "if ()": 4, "if (1": 5, "if (1 { }": 6, "if (1)": 6, "if (1) ;": 7, "if (1) return 1;": 7,
		"if (1) { } else": 15, "if (1) { } else ;": 16, "if (1) { } else if (1) { }": 16, "if (1) { } else { } else { }": 20,
		"if (1) { else { } }": 9, "if (1) { } ; else": 11,
	} {
		parseFuncsFails(t, head+body, len(head)+at, api.ErrSyntax)
	}
}

// P8.2: functions that are not small are told behind what is wrong, and at the place 0.
func TestParseFuncsNotSmall(t *testing.T) {
	nested := func(n int) string {
		return "func f(){" + strings.Repeat("while(1){", n) + "return 1;" + strings.Repeat("}", n+1)
	}
	some := func(n int) string { return strings.Repeat("a=1;", n) }
	for text, isSmall := range map[string]bool{
		"func f(a,b,c,d){}": true, "func f(a,b,c,d,e){}": false, "func f(){} func g(a,b,c,d,e){}": false, strings.Repeat("func f(){}", 8): true,
		strings.Repeat("func f(){}", 9): false,
		nested(28):                      true, nested(29): false, "func f(){" + some(200) + "}": true, "func f(){" + some(201) + "}": false,
		"func f(){" + some(100) + "}func g(){" + some(100) + "}": true, "func f(){" + some(100) + "}func g(){" + some(100) + "return 1;}": false,
		"func f(){return f(1,2,3,4,5);}": false, "func f(){while(f(1,2,3,4)){}}": true,
		"func f(){" + strings.Repeat("if(1){}else{a=1;}", 100) + "}": true, "func f(){" + strings.Repeat("if(1){}else{a=1;}", 100) + "a=1;}": false,
		"func f(){return " + strings.Repeat("!", 28) + "a;}": true, "func f(){return " + strings.Repeat("!", 29) + "a;}": false,
	} {
		l, at, e := ParseFuncs(text)
		checkErrno(t, text, "ParseFuncs", e, smallOr(isSmall))
		if at != 0 || (len(l) > 0) != isSmall {
			t.Errorf("ParseFuncs of %.40q: %s, %d", text, short(l), at)
		}
		if !isSmall {
			parseFuncsFails(t, text+" @", len(text)+1, api.ErrSyntax)
			parseFuncsFails(t, text+" func", len(text)+5, api.ErrSyntax)
		}
	}
}

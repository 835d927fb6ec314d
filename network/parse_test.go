package network_test

import (
	"strconv"
	"strings"
	"testing"

	"foliot/api"
)

// P11.2: the examples of the chapter, and a model in which each part stands.
func TestParse(t *testing.T) {
	checkParse(t, fullText, full())
	checkParse(t, "model m; clock x; process P init A { loc A inv x <= 2; edge A -> A when x == 2 reset x = 0; }", api.Model{
		Name: "m", Clocks: []string{"x"}, Procs: []api.Proc{{
			Name: "P", Init: "A", Locs: []api.Loc{{Name: "A", Inv: []api.Test{{Clock: "x", C: 2}}}},
			Edges: []api.Edge{{From: "A", To: "A", Tests: []api.Test{{Clock: "x", C: 2}, {Clock: "x", Lower: true, C: 2}}, Clears: []api.Clear{{Clock: "x"}}}},
		}},
	})
	wrongAt(t, "model m@")
	wrongAt(t, "model m; var v in 1..2@;")
	wrongAt(t, "model m; @loc")
	wrongAt(t, "@")
}

// P11.2: declarations in any order, with one name or several ones.
func TestParseDeclarations(t *testing.T) {
	checkParse(t, "model m;", api.Model{Name: "m"})
	checkParse(t, " // a model\n\tmodel\r\n"+longestName+"// of no parts\n; //", api.Model{Name: longestName})
	checkParse(t, "model m;clock x;clock y,z;", api.Model{Name: "m", Clocks: []string{"x", "y", "z"}})
	checkParse(t, "model m; clock x, x; clock m;", api.Model{Name: "m", Clocks: []string{"x", "x", "m"}})
	v, w := api.Var{Name: "v", Low: -3, High: 4, Init: 5}, api.Var{Name: "w", Low: -1 << 31, High: 1 << 31}
	a, b := api.Chan{Name: "a", Broadcast: true}, api.Chan{Name: "b", Broadcast: true}
	want := api.Model{Name: "m", Clocks: []string{"x", "y"}, Vars: []api.Var{v, w}, Chans: []api.Chan{a, b, {Name: "c"}, {Name: "d", Urgent: true}, {Name: "e", Urgent: true}}}
	for _, text := range []string{
		"model m; clock x, y; var v in -3..4 = 5; var w in -2147483648..2147483648 = 0; broadcast chan a, b; chan c; urgent chan d, e;",
		"model m; broadcast chan a; var v in -3..4 = 5; clock x; broadcast chan b; chan c; clock y; urgent chan d; urgent chan e; var w in -2147483648..2147483648 = 0;",
		"model m;var v in-3..4=5;var w in - 2147483648 .. 2147483648=0;broadcast chan a,b;chan c;clock x,y;urgent chan d,e;",
	} {
		checkParse(t, text, want)
	}
	checkParse(t, "model m; broadcast urgent chan a, b;", api.Model{Name: "m", Chans: []api.Chan{
		{Name: "a", Broadcast: true, Urgent: true}, {Name: "b", Broadcast: true, Urgent: true}}})
	checkParse(t, "model m; func f() { } func g(a, b) { } process P init A { } process Q init B { }", api.Model{
		Name: "m", Funcs: []api.Func{{Name: "f"}, {Name: "g", Params: []string{"a", "b"}}},
		Procs: []api.Proc{{Name: "P", Init: "A"}, {Name: "Q", Init: "B"}}})
}

func inProcess(text string) string { return "model m; process P init A { " + text + " }" }

// ofProcess returns the model of inProcess.
func ofProcess(locs []api.Loc, edges []api.Edge) api.Model {
	return api.Model{Name: "m", Procs: []api.Proc{{Name: "P", Init: "A", Locs: locs, Edges: edges}}}
}

// P11.2: each part of a location, and all of them.
func TestParseLocations(t *testing.T) {
	for text, want := range map[string]api.Loc{
		"loc A;":           {Name: "A"},
		"loc A urgent;":    {Name: "A", Kind: api.LocUrgent},
		"loc A committed;": {Name: "A", Kind: api.LocCommitted},
		"loc A inv x<5;":   {Name: "A", Inv: []api.Test{{Clock: "x", Strict: true, C: 5}}},
		"loc A rate 7;":    {Name: "A", Rate: 7},
		"loc A rate -7;":   {Name: "A", Rate: -7},
		"loc A rate 0;":    {Name: "A"},
		"loc A committed inv x >= 1 && y == 2 rate 2147483648;": {Name: "A", Kind: api.LocCommitted, Rate: 1 << 31, Inv: []api.Test{
			{Clock: "x", Lower: true, C: 1}, {Clock: "y", C: 2}, {Clock: "y", Lower: true, C: 2}}},
	} {
		checkParse(t, inProcess(text), ofProcess([]api.Loc{want}, nil))
		checkParse(t, inProcess("loc B; "+text+" loc C rate 1;"), ofProcess([]api.Loc{{Name: "B"}, want, {Name: "C", Rate: 1}}, nil))
	}
}

// P11.2: what each sign says of a clock.
func TestParseTests(t *testing.T) {
	signs := map[string][]api.Test{
		"<": {{Strict: true}}, "<=": {{}}, ">": {{Lower: true, Strict: true}}, ">=": {{Lower: true}}, "==": {{}, {Lower: true}},
	}
	for sign, l := range signs {
		for _, c := range []int64{0, 1, 10, -1, 1 << 31, -1 << 31} {
			var want []api.Test
			for _, x := range l {
				x.Clock, x.C = "x", c
				want = append(want, x)
			}
			number := strconv.FormatInt(c, 10)
			for _, test := range []string{"x" + sign + number, "x " + sign + " " + number} {
				checkParse(t, inProcess("loc A inv "+test+";"), ofProcess([]api.Loc{{Name: "A", Inv: want}}, nil))
				both := append([]api.Test{{Clock: "y", C: 3}}, want...)
				checkParse(t, inProcess("edge A -> B when y <= 3 && "+test+";"), ofProcess(nil, []api.Edge{{From: "A", To: "B", Tests: both}}))
			}
		}
	}
}

// P11.2: each part of an edge, and pairs of them.
func TestParseEdges(t *testing.T) {
	parts := []struct {
		text string
		add  func(x *api.Edge)
	}{
		{"when x < 2 && y == 1", func(x *api.Edge) {
			x.Tests = []api.Test{{Clock: "x", Strict: true, C: 2}, {Clock: "y", C: 1}, {Clock: "y", Lower: true, C: 1}}
		}},
		{"if v < 2 ? w : -f(1)", func(x *api.Edge) { x.Cond = expOf(t, "v < 2 ? w : -f(1)") }},
		{"sync c!", func(x *api.Edge) { x.Chan, x.Send = "c", true }},
		{"sync c ?", func(x *api.Edge) { x.Chan = "c" }},
		{"do v = v ? 1 : 2, w=-1", func(x *api.Edge) {
			x.Sets = []api.Assign{{Name: "v", Val: expOf(t, "v ? 1 : 2")}, {Name: "w", Val: expOf(t, "-1")}}
		}},
		{"do v = 0", func(x *api.Edge) { x.Sets = []api.Assign{{Name: "v", Val: expOf(t, "0")}} }},
		{"reset x = 0, y=-4, x = 2", func(x *api.Edge) { x.Clears = []api.Clear{{Clock: "x"}, {Clock: "y", To: -4}, {Clock: "x", To: 2}} }},
		{"cost 5", func(x *api.Edge) { x.Cost = 5 }},
		{"cost - 2147483648", func(x *api.Edge) { x.Cost = -1 << 31 }},
		{"kind 1", func(x *api.Edge) { x.Kind = 1 }},
		{"kind -2147483648", func(x *api.Edge) { x.Kind = -1 << 31 }},
		{"cost 0", func(*api.Edge) {}},
		{"kind 0", func(*api.Edge) {}},
		{"", func(*api.Edge) {}},
	}
	for _, first := range parts {
		for _, second := range parts {
			x := api.Edge{From: "A", To: "B"}
			first.add(&x)
			second.add(&x)
			if order(first.text) < order(second.text) {
				text := "edge A -> B " + first.text + " " + second.text + ";"
				checkParse(t, inProcess("loc A;"+text), ofProcess([]api.Loc{{Name: "A"}}, []api.Edge{x}))
				checkParse(t, inProcess("edge A->A;"+text+text), ofProcess(nil, []api.Edge{{From: "A", To: "A"}, x, x}))
			} else if second.text != "" {
				before, _, _ := strings.Cut(second.text, " ")
				wrongAt(t, inProcess("edge A -> B "+first.text+" @"+before))
				wrongAt(t, inProcess("edge A -> B "+first.text+" @"+second.text+";"))
			}
		}
	}
}

// order tells at which place of an edge a part stands.
func order(part string) int {
	first, _, _ := strings.Cut(part, " ")
	for k, word := range strings.Fields("when if sync do reset cost kind") {
		if word == first {
			return k
		}
	}
	return -1
}

// P11.2: the first wrong token, or the end of the text, in declarations.
func TestParseWrong(t *testing.T) {
	for _, marked := range []string{
		" // nothing\n@", "@clock x;", "@m", "model@", "model @model;", "model @1;", "model m@", "model m @model", "model m @x", "model m;@;",
		"model m; @m", "model m; @1", "model m; @init", "model m; @edge A -> A;", "model m; @when", "model m; @{", "model m; clock x;@;", "model m; @model n;",
		"model m; clock@", "model m; clock @;", "model m; clock x@", "model m; clock x @y;", "model m; clock x,@;", "model m; clock x, @clock;",
		"model m; clock x, y @= 0;", "model m; var@", "model m; var v@", "model m; var v @= 1;", "model m; var v@, w in 0..1 = 0;",
		"model m; var v in@", "model m; var v in @v", "model m; var v in @..", "model m; var v in @+1..1", "model m; var v in @(1", "model m; var v in 1@",
		"model m; var v in 1 @2", "model m; var v in 1@.2", "model m; var v in 1 @- 2", "model m; var v in 1..@", "model m; var v in 1..@.2 = 0",
		"model m; var v in 1..@= 0", "model m; var v in 1..2@", "model m; var v in 1..2 @== 0;", "model m; var v in 1..2 =@", "model m; var v in 1..2 = @x",
		"model m; var v in 1..2 = @!1", "model m; var v in 1..2 = 0@", "model m; var v in 1..2 = 0@, w in 0..1 = 0;",
		"model m; var v in -@", "model m; var v in -@0..1 = 0;", "model m; var v in -@-1..1 = 0;", "model m; var v in -@x", "model m; var v in 0..@01",
		"model m; var v in @00", "model m; var v in 0..@2147483649", "model m; var v in - @2147483649", "model m; var v in 0..1 = @9999999999999999999999",
		"model m; chan@", "model m; chan @chan", "model m; chan @urgent c;", "model m; chan c@", "model m; chan c@!;", "model m; chan c,@",
		"model m; broadcast@", "model m; broadcast @c", "model m; broadcast @clock", "model m; broadcast @broadcast chan c;", "model m; broadcast urgent@",
		"model m; broadcast urgent @c;", "model m; urgent@", "model m; urgent @broadcast chan c;", "model m; urgent @urgent", "model m; urgent @clock c;",
		"model m; func@", "model m; func @1", "model m; func f@", "model m; func f() { return 1 @}", "model m; func f() { @loc }", "model m; func f() { x = 1; @",
		"model m; func f() { }@;", "model m; func f() { } @clock x;", "model m; func f() { } @var v in 0..1 = 0;", "model m; func f() { } @chan c;",
		"model m; func f() { } @broadcast chan c;", "model m; func f() { } @urgent chan c;",
		"model m; process@", "model m; process @process", "model m; process P@", "model m; process P @{", "model m; process P init@", "model m; process P init @{",
		"model m; process P init A@", "model m; process P init A @;", "model m; process P init A {@", "model m; process P init A { @process",
		"model m; process P init A { @init", "model m; process P init A { @clock x;", "model m; process P init A { }@;", "model m; process P init A { } @}",
		"model m; process P init A { } @clock x;", "model m; process P init A { } @func f() { }", "model m; process P init A { } @model m;",
		"model m; process P init A { } process P init B {@",
	} {
		wrongAt(t, marked)
	}
}

// wrongInProcess checks a part of a process, in a small model and in the full one.
func wrongInProcess(t *testing.T, parts ...string) {
	t.Helper()
	for _, marked := range parts {
		wrongAt(t, "model m; process P init A { "+marked)
		wrongAt(t, strings.TrimSuffix(fullText, "}\n")+marked)
	}
}

// P11.2: the first wrong token in a location.
func TestParseWrongLocations(t *testing.T) {
	wrongInProcess(t,
		"loc@", "loc @;", "loc @loc;", "loc @urgent A;", "loc A@", "loc A @B", "loc A@, B;", "loc A;@;", "loc A @broadcast;",
		"loc A urgent @committed;", "loc A committed @urgent;", "loc A urgent @urgent;",
		"loc A inv@", "loc A inv@;", "loc A inv @1 < x;", "loc A inv @(x < 1);", "loc A inv x@", "loc A inv x@;", "loc A inv x @!= 2;", "loc A inv x @= 2;",
		"loc A inv x @&& y < 1;", "loc A inv x @- y < 1;", "loc A inv x <@", "loc A inv x < @= 2;", "loc A inv x < @y;", "loc A inv x < 1 @+ 1;",
		"loc A inv x <=@", "loc A inv x ==@;", "loc A inv x < @01;", "loc A inv x < -@0;", "loc A inv x < -@;", "loc A inv x < @2147483649;", "loc A inv x < 1@",
		"loc A inv x < 1 &&@", "loc A inv x < 1 &&@& y < 1;", "loc A inv x < 1 && @rate", "loc A inv x < 1 @|| x > 2;", "loc A inv x < 1@, x > 2;", "loc A inv x < 1 @urgent;",
		"loc A inv x < 1 @inv x < 1;", "loc A rate@", "loc A rate@;", "loc A rate @x;", "loc A rate @= 1;", "loc A rate @01;", "loc A rate 1@", "loc A rate 1 @2;",
		"loc A rate 1 @rate 1;", "loc A rate 1 @inv x < 1;", "loc A rate 1 @urgent;", "loc A @when x < 1;", "loc A @cost 1;",
	)
}

// P11.2: the first wrong token in an edge; expressions end where their grammar does.
func TestParseWrongEdges(t *testing.T) {
	wrongInProcess(t,
		"edge@", "edge @->", "edge A@", "edge A @B", "edge A @- > B;", "edge A @> B;", "edge A ->@", "edge A -> @;", "edge A -> @if 1;",
		"edge A -> B@", "edge A -> B @C", "edge A -> B@, C;", "edge A -> B @-> C;", "edge A -> B @inv x < 1;", "edge A -> B @rate 1;", "edge A -> B @urgent;",
		"edge A -> B;@;", "edge A -> B; @loc A;",
		"edge A -> B when@", "edge A -> B when @if 1;", "edge A -> B when x == 1 && @;", "edge A -> B when x == 1 @x < 1;", "edge A -> B when x @- y < 1;",
		"edge A -> B if@", "edge A -> B if @;", "edge A -> B if @sync c!;", "edge A -> B if a @b;", "edge A -> B if a +@", "edge A -> B if (a@;",
		"edge A -> B if a@) ;", "edge A -> B if a < b @< c;", "edge A -> B if a ? b@;", "edge A -> B if a@, b;", "edge A -> B if a @= 1;", "edge A -> B if a @-> b;",
		"edge A -> B if a @if b;", "edge A -> B if a @when x < 1;", "edge A -> B if f(1,@);", "edge A -> B if @01;", "edge A -> B if a@",
		"edge A -> B sync@", "edge A -> B sync @!", "edge A -> B sync @1!;", "edge A -> B sync @in?", "edge A -> B sync c@", "edge A -> B sync c@;", "edge A -> B sync c@!= 1;",
		"edge A -> B sync c!@!", "edge A -> B sync c?@?", "edge A -> B sync c!@, d!;", "edge A -> B sync c! @sync d!;", "edge A -> B sync c?@",
		"edge A -> B do@", "edge A -> B do @;", "edge A -> B do @do", "edge A -> B do @1 = v;", "edge A -> B do v@", "edge A -> B do v @== 1;", "edge A -> B do v =@;",
		"edge A -> B do v = 1@", "edge A -> B do v = 1,@", "edge A -> B do v = 1, @reset x = 0;", "edge A -> B do v = 1 @w = 2;", "edge A -> B do v = w @= 1;",
		"edge A -> B do v = a < b @== c;", "edge A -> B do v = (1@, 2);", "edge A -> B do v = 1 @do w = 2;",
		"edge A -> B reset@", "edge A -> B reset @;", "edge A -> B reset x@", "edge A -> B reset x@, y;", "edge A -> B reset x @== 0;", "edge A -> B reset x =@",
		"edge A -> B reset x = @y;", "edge A -> B reset x = 0@", "edge A -> B reset x = 0 @+ 1;", "edge A -> B reset x = 0,@;", "edge A -> B reset x = -@0;",
		"edge A -> B reset x = @2147483649;", "edge A -> B reset x = 0 @do v = 1;",
		"edge A -> B cost@", "edge A -> B cost@;", "edge A -> B cost @x;", "edge A -> B cost -@", "edge A -> B cost @00;", "edge A -> B cost 1@", "edge A -> B cost 1 @2;",
		"edge A -> B cost 1 @cost 1;", "edge A -> B kind@", "edge A -> B kind@;", "edge A -> B kind @environment;", "edge A -> B kind @2147483649;", "edge A -> B kind 1@",
		"edge A -> B kind 1 @cost 1;",
	)
}

// P11.2: a word that is no name is wrong wherever only a name is possible.
func TestParseNames(t *testing.T) {
	for _, before := range []string{
		"model ", "model m; clock ", "model m; clock x, ", "model m; var ", "model m; chan ", "model m; urgent chan c, ", "model m; func ", "model m; func f(a, ",
		"model m; process ", "model m; process P init ",
	} {
		checkNames(t, before)
	}
	for _, before := range []string{
		"loc ", "loc A inv ", "loc A inv x < 1 && ", "edge ", "edge A -> ", "edge A -> A when ", "edge A -> A if 1 + ", "edge A -> A sync ", "edge A -> A do ",
		"edge A -> A do v = 0, ", "edge A -> A reset ", "edge A -> A reset x = 0, ",
	} {
		checkNames(t, "model m; process P init A { "+before)
	}
}

// checkNames checks what may stand behind a text where only a name is possible.
func checkNames(t *testing.T, before string) {
	t.Helper()
	for _, word := range append(strings.Fields(reservedWords), tooLongName, "01", "_", "~") {
		wrongAt(t, before+"@"+word+" ;")
		wrongAt(t, before+"// "+word+"\n\t@"+word)
	}
	for _, name := range []string{longestName, "a", "Z", "in_", "clocks", "Model", "timed"} {
		wrongAt(t, before+name+" @~")
	}
}

// P11.2: a byte that begins no token is wrong, wherever it stands.
func TestParseBytes(t *testing.T) {
	const known = " \t\r\nabcdefghijklmnopqrstuvwxyzABCDEFGHIJKLMNOPQRSTUVWXYZ0123456789+-*/%<>=!?:;,.(){}"
	for c := range 256 {
		if c < 128 && strings.Contains(known, string(rune(c))) {
			continue
		}
		wrong := string([]byte{byte(c)})
		for k := range fullText {
			if fullText[k] == ' ' || fullText[k] == '\n' {
				parseFails(t, fullText[:k]+" "+wrong+fullText[k:], k+1, api.ErrSyntax)
			}
		}
		parseFails(t, wrong+fullText, 0, api.ErrSyntax)
		parseFails(t, fullText+wrong, len(fullText), api.ErrSyntax)
		checkParse(t, "model m; // "+wrong, api.Model{Name: "m"})
	}
}

// P11.2: a text of up to 20000 bytes, whatever it consists of.
func TestParseLongTexts(t *testing.T) {
	for _, text := range []string{
		strings.Repeat(" ", 20001), strings.Repeat("~", 20001), fullText + strings.Repeat("\n", 20001-len(fullText)), "~" + strings.Repeat("x", 1<<20), "model m; " + strings.Repeat("clock x; ", 3000),
	} {
		parseFails(t, text, 0, api.ErrLong)
	}
	checkParse(t, fullText+strings.Repeat("\n", 20000-len(fullText)), full())
	checkParse(t, strings.Repeat(" ", 19992)+"model m;", api.Model{Name: "m"})
	parseFails(t, strings.Repeat(" ", 19999)+"~", 19999, api.ErrSyntax)
	parseFails(t, strings.Repeat(" ", 20000), 20000, api.ErrSyntax)
}

// P11.2, rule R1: texts that are nested as deep as they can be.
func TestParseDeepTexts(t *testing.T) {
	for _, part := range []string{"(", "-", "!", "f(", "a?", "a?b:", "1+(", "f(1,"} {
		for _, before := range []string{"edge A -> A if ", "edge A -> A do v = "} {
			text := "model m; process P init A { " + before
			text += strings.Repeat(part, (20000-len(text))/len(part))
			parseFails(t, text, len(text), api.ErrSyntax)
		}
	}
	text := "model m; func f() { " + strings.Repeat("while (1) {", 1500)
	parseFails(t, text, len(text), api.ErrSyntax)
	parseFails(t, text+strings.Repeat("}", 1501), 0, api.ErrLong)
	parseFails(t, inProcess("edge A -> A if "+strings.Repeat("!", 19900)+"a;"), 0, api.ErrLong)
	checkParse(t, inProcess("edge A -> A if "+strings.Repeat("(", 9900)+"a"+strings.Repeat(")", 9900)+";"), ofProcess(nil, []api.Edge{{From: "A", To: "A", Cond: expOf(t, "a")}}))
}

package network

import (
	"strconv"
	"strings"

	"foliot/api"
	"foliot/code"
)

// modelText returns the canonical text of a model that is well-formed and small.
func modelText(m api.Model) string {
	text := "model " + m.Name + ";\n"
	if len(m.Clocks) > 0 {
		text += "clock " + strings.Join(m.Clocks, ", ") + ";\n"
	}
	funcs, _ := code.PrintFuncs(m.Funcs)
	return text + joined(m.Vars, "", varText) + joined(m.Chans, "", chanText) + funcs + joined(m.Procs, "", procText)
}

func joined[T any](l []T, sign string, text func(x T) string) string {
	var texts []string
	for _, x := range l {
		texts = append(texts, text(x))
	}
	return strings.Join(texts, sign)
}

func number(n int64) string { return strconv.FormatInt(n, 10) }

func varText(v api.Var) string {
	return "var " + v.Name + " in " + number(v.Low) + ".." + number(v.High) + " = " + number(v.Init) + ";\n"
}

func chanText(c api.Chan) string {
	text := "chan " + c.Name + ";\n"
	if c.Urgent {
		text = "urgent " + text
	}
	if c.Broadcast {
		text = "broadcast " + text
	}
	return text
}

func procText(p api.Proc) string {
	return "process " + p.Name + " init " + p.Init + " {\n" + joined(p.Locs, "", locText) + joined(p.Edges, "", edgeText) + "}\n"
}

func locText(l api.Loc) string {
	text := "\tloc " + l.Name
	switch l.Kind {
	case api.LocUrgent:
		text += " urgent"
	case api.LocCommitted:
		text += " committed"
	}
	return text + clause("inv", testsText(l.Inv)) + numberClause("rate", l.Rate) + ";\n"
}

// clause returns a part of a location or an edge; an empty one does not stand there.
func clause(word, text string) string {
	if text == "" {
		return ""
	}
	return " " + word + " " + text
}

func numberClause(word string, n int64) string {
	if n == 0 {
		return ""
	}
	return clause(word, number(n))
}

func edgeText(x api.Edge) string {
	return "\tedge " + x.From + " -> " + x.To + clause("when", testsText(x.Tests)) + clause("if", expText(x.Cond)) +
		clause("sync", syncText(x)) + clause("do", joined(x.Sets, ", ", setText)) +
		clause("reset", joined(x.Clears, ", ", clearText)) +
		numberClause("cost", x.Cost) + numberClause("kind", int64(x.Kind)) + ";\n"
}

func testsText(l []api.Test) string { return joined(l, " && ", testText) }

func testText(t api.Test) string {
	sign := "<"
	if t.Lower {
		sign = ">"
	}
	if !t.Strict {
		sign += "="
	}
	return t.Clock + " " + sign + " " + number(t.C)
}

// expText returns the empty text for the zero expression.
func expText(x api.Exp) string {
	text, _ := code.PrintExp(x)
	return text
}

func syncText(x api.Edge) string {
	switch {
	case x.Chan == "":
		return ""
	case x.Send:
		return x.Chan + "!"
	}
	return x.Chan + "?"
}

func setText(s api.Assign) string { return s.Name + " = " + expText(s.Val) }

func clearText(c api.Clear) string { return c.Clock + " = " + number(c.To) }

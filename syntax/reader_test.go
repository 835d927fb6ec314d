package syntax

import (
	"slices"
	"testing"

	"foliot/api"
)

// pairs reads a grammar of its own: "of" integer name { "," integer name }.
func pairs(r *Reader) []string {
	r.Expect("of")
	return List(r, ",", func() string {
		if r.Integer() < 0 {
			return "-" + r.Name()
		}
		return r.Name()
	})
}

func isShort(l []string) api.Errno {
	if len(l) > 3 {
		return api.ErrLong
	}
	return api.OK
}

// P8.2, P8.3: what Read and Parse return for another grammar: errors of the text first, then that of the tree.
func TestReadAndParse(t *testing.T) {
	for _, c := range []struct {
		text        string
		from        int
		want        []string
		place       int
		e           api.Errno
		parsedPlace int
		parsedE     api.Errno
	}{
		{"of 1 a", 0, []string{"a"}, 6, api.OK, 0, api.OK},
		{"of 0 a, -2147483648 b,\n - 1 c // end", 0, []string{"a", "-b", "-c"}, 36, api.OK, 0, api.OK},
		{"of 1 a ; of", 0, []string{"a"}, 7, api.OK, 7, api.ErrSyntax},
		{"of 1 a ~", 0, []string{"a"}, 7, api.OK, 7, api.ErrSyntax},
		{"~ of 1 a", 1, []string{"a"}, 8, api.OK, 0, api.ErrSyntax},
		{"of 1 a, 1 b, 1 c, 1 d", 0, nil, 0, api.ErrLong, 0, api.ErrLong},
		{"of 1 a, 1 b, 1 c, 1 d, 1", 0, nil, 24, api.ErrSyntax, 24, api.ErrSyntax},
		{"of 1 a, 1 b, 1 c, 1 d ;", 0, nil, 0, api.ErrLong, 22, api.ErrSyntax},
		{"of 1 if", 0, nil, 5, api.ErrSyntax, 5, api.ErrSyntax},
		{"of", 0, nil, 2, api.ErrSyntax, 2, api.ErrSyntax},
		{"of a", 0, nil, 3, api.ErrSyntax, 3, api.ErrSyntax},
		{"of ~", 0, nil, 3, api.ErrSyntax, 3, api.ErrSyntax},
		{"of -a", 0, nil, 4, api.ErrSyntax, 4, api.ErrSyntax},
		{"of -0 a", 0, nil, 4, api.ErrSyntax, 4, api.ErrSyntax},
		{"of 01 a", 0, nil, 3, api.ErrSyntax, 3, api.ErrSyntax},
		{"of -2147483649 a", 0, nil, 4, api.ErrSyntax, 4, api.ErrSyntax},
		{"of 1 a", 7, nil, 0, api.ErrArg, 0, api.OK},
		{"of 1 a", -1, nil, 0, api.ErrArg, 0, api.OK},
	} {
		l, place, e := Read(c.text, c.from, pairs, isShort)
		if !slices.Equal(l, c.want) || place != c.place || e != c.e {
			t.Errorf("Read(%q, %d): %q, %d, %d; want %q, %d, %d", c.text, c.from, l, place, e, c.want, c.place, c.e)
		}
		l, place, e = Parse(c.text, pairs, isShort)
		if place != c.parsedPlace || e != c.parsedE || (len(l) > 0) != (e == api.OK) {
			t.Errorf("Parse(%q): %q, %d, %d; want %d, %d", c.text, l, place, e, c.parsedPlace, c.parsedE)
		}
	}
}

// P8.2: the next token is empty at the end, and at a byte that begins no token.
func TestNext(t *testing.T) {
	var met []string
	_, place, e := Read(" a+ 12..b // c\n->", 0, func(r *Reader) int {
		for !r.IsAtEnd() {
			met = append(met, r.Next())
			r.Advance()
		}
		met = append(met, r.Next())
		return 0
	}, func(int) api.Errno { return api.OK })
	if want := []string{"a", "+", "12", "..", "b", "->", ""}; !slices.Equal(met, want) || place != 17 || e != api.OK {
		t.Errorf("%q, %d, %d; want %q", met, place, e, want)
	}
	_, place, e = Read("a ~ b", 0, func(r *Reader) int {
		r.Advance()
		if r.Next() != "" || r.IsAtEnd() {
			t.Errorf("at a byte that begins no token: %q, %t", r.Next(), r.IsAtEnd())
		}
		r.Leave()
		return 0
	}, func(int) api.Errno { return api.OK })
	if place != 2 || e != api.ErrSyntax {
		t.Errorf("%d, %d", place, e)
	}
}

package code

import (
	"slices"
	"strings"
	"testing"
)

// P8.1: a name is a word of 1 to 16 bytes.
func TestName(t *testing.T) {
	for _, s := range []string{
		"a", "Z", "a0", "a_", "A_9", "x__y", "clocks", "If", "IF", "mode", "models", "deadlock", "true",
		"timed", "i", "fun", longestName, strings.Repeat("z", 16),
	} {
		if !Name(s) {
			t.Errorf("%q is a name", s)
		}
	}
	for _, s := range []string{
		"", "9", "9a", "_", "_a", " ", "a ", " a", "a b", "a\n", "a-b", "a.b", "-1", "f(", "\x00", "a\x00", "ä", "aä", "a\xff", "\xff",
		tooLongName, strings.Repeat("z", 17), strings.Repeat("z", 1<<20), "a//",
	} {
		if Name(s) {
			t.Errorf("%.40q is no name", s)
		}
	}
}

// P8.1: each byte, as the first one of a name and behind it.
func TestNameBytes(t *testing.T) {
	const letters = "abcdefghijklmnopqrstuvwxyzABCDEFGHIJKLMNOPQRSTUVWXYZ"
	for c := range 256 {
		one := string([]byte{byte(c)})
		if want := strings.Contains(letters, one) && c < 128; Name(one) != want {
			t.Errorf("Name(%q): %v", one, !want)
		}
		if want := strings.Contains(letters+"0123456789_", one) && c < 128; Name("q"+one) != want || Name("q"+one+"q") != want {
			t.Errorf("Name(%q) or Name(%q): %v", "q"+one, "q"+one+"q", !want)
		}
	}
}

// P8.1: reserved words are no names, whatever is like them is one.
func TestReservedWords(t *testing.T) {
	words := strings.Fields(reservedWords)
	if len(words) != 25 {
		t.Fatalf("%d reserved words", len(words))
	}
	for _, s := range words {
		if Name(s) {
			t.Errorf("%q is reserved", s)
		}
		for _, like := range []string{strings.ToUpper(s), s + "_", s + "s", "x" + s, s[:len(s)-1], s[1:]} {
			if want := !slices.Contains(words, like); Name(like) != want { // "do" is in "model", but nothing above is reserved
				t.Errorf("Name(%q): %v", like, !want)
			}
		}
	}
}

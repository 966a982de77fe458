package expr_test

import (
	"testing"

	"beadle/api"
	"beadle/expr"
)

// P14.2: the one text of an expression, which tells it again.
func TestShow(t *testing.T) {
	for _, row := range [][2]string{
		{"a", "a"}, {" ( a ) ", "a"}, {"@a-b", "@a-b"}, {"#text", "#text"}, {"( )", "()"},
		{"a  b c", "a b c"}, {"a@b#text()c", "a @b #text () c"}, {"(a)(b)", "a b"},
		{" a | b | c ", "a|b|c"}, {"a & b & c", "a&b&c"},
		{"a*+?", "a*+?"}, {"((a*)+)?", "a*+?"}, {"()*", "()*"}, {"@a+", "@a+"}, {"#text ?", "#text?"},
		{"(a b)*", "(a b)*"}, {"(a|b)+", "(a|b)+"}, {"(a&b)?", "(a&b)?"}, {"(a b)*+", "(a b)*+"},
		{"(a b) c", "(a b) c"}, {"a (b|c)", "a (b|c)"}, {"(a&b) c", "(a&b) c"}, {"a (b c)*", "a (b c)*"}, {"(a*) b", "a* b"},
		{"(a b)&c", "a b&c"}, {"a&(b|c)", "a&(b|c)"}, {"(a&b)&c", "(a&b)&c"}, {"(a*)&b", "a*&b"}, {"(a&b)*&c", "(a&b)*&c"},
		{"(a b)|c", "a b|c"}, {"a|(b&c)", "a|b&c"}, {"a|(b|c)", "a|(b|c)"}, {"(a?)|b", "a?|b"}, {"(a|b)?|c", "(a|b)?|c"},
		{"a (b|c)* & #text", "a (b|c)*&#text"},
		{"((a|b) (c&(d e)) f)", "(a|b) (c&d e) f"},
	} {
		e := parse(t, row[0])
		got := expr.Show(e)
		if got != row[1] {
			t.Errorf("%q: %q, want %q", row[0], got, row[1])
		}
		if again := parse(t, got); tell(again) != tell(e) {
			t.Errorf("%q: %s, read again %s", row[0], tell(e), tell(again))
		}
	}
	if got := expr.Show(expr.Expr{}); got != "()" {
		t.Errorf("nothing: %q", got)
	}
}

// P14.2: what Spread tells is shown too.
func TestShowSpread(t *testing.T) {
	for _, row := range [][2]string{
		{"a&b", "a b|b a"},
		{"a b&c", "(a b) c|c (a b)"},
		{"(a|b)&c", "(a|b) c|c (a|b)"},
		{"a&b|c", "(a b|b a)|c"},
		{"(a&b)*", "(a b|b a)*"},
		{"(a&b) c", "(a b|b a) c"},
		{"(a&b)&c", "(a b|b a) c|c (a b|b a)"},
		{"a&()", "a ()|() a"},
	} {
		e, code := expr.Spread(parse(t, row[0]))
		got := expr.Show(e)
		if code != api.OK || got != row[1] {
			t.Errorf("%q: %q, error %d, want %q", row[0], got, code, row[1])
		}
		if again := parse(t, got); tell(again) != tell(e) {
			t.Errorf("%q: %s, read again %s", row[0], tell(e), tell(again))
		}
	}
}

// P14.2: 1, and the Sizes of the Kids.
func TestSize(t *testing.T) {
	for text, want := range map[string]int{"a": 1, "()": 1, "#text": 1, "@a": 1, "(a)": 1, "a*": 2, "a*+?": 4, "a b": 3, "a|b|c": 4, "a&b": 3, "a b&c d|e": 9, "a (b|c)* & #text": 8} {
		if got := expr.Size(parse(t, text)); got != want {
			t.Errorf("%q: %d, want %d", text, got, want)
		}
	}
	if got := expr.Size(expr.Expr{}); got != 1 {
		t.Errorf("nothing: %d", got)
	}
}

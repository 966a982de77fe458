package expr_test

import (
	"fmt"
	"reflect"
	"strings"
	"testing"

	"beadle/api"
	"beadle/expr"
)

// tell writes an expression so that each part can be seen.
func tell(e expr.Expr) string {
	kinds := []string{"empty", "name", "category", "text", "seq", "alt", "all", "star", "plus", "maybe"}
	out := fmt.Sprint("kind ", e.Kind)
	if e.Kind >= 0 && e.Kind < len(kinds) {
		out = kinds[e.Kind]
	}
	if e.Word != "" {
		out += " " + e.Word
	}
	if len(e.Kids) == 0 {
		return out
	}
	var kids []string
	for _, k := range e.Kids {
		kids = append(kids, tell(k))
	}
	return out + "{" + strings.Join(kids, ", ") + "}"
}

func parse(t *testing.T, s string) expr.Expr {
	t.Helper()
	e, at, code := expr.Parse(s)
	if at != 0 || code != api.OK {
		t.Fatalf("Parse(%q): place %d, error %d", s, at, code)
	}
	return e
}

func nested(n int, s string) string {
	return strings.Repeat("(", n) + s + strings.Repeat(")", n)
}

// P14.1: the numbers of the kinds.
func TestKinds(t *testing.T) {
	got := []int{expr.Empty, expr.Name, expr.Category, expr.Text, expr.Seq, expr.Alt, expr.All, expr.Star, expr.Plus, expr.Maybe}
	for i, k := range got {
		if k != i {
			t.Errorf("kind %d is %d", i, k)
		}
	}
}

// P14.1: texts and their expressions.
func TestParse(t *testing.T) {
	for _, row := range [][2]string{
		{"a", "name a"},
		{"a-9", "name a-9"},
		{"-", "name -"},
		{"09z", "name 09z"},
		{"@a", "category a"},
		{"@-0", "category -0"},
		{"#text", "text"},
		{"()", "empty"},
		{"( )", "empty"},
		{"a b", "seq{name a, name b}"},
		{"a  b   c", "seq{name a, name b, name c}"},
		{"a|b", "alt{name a, name b}"},
		{"a&b", "all{name a, name b}"},
		{"a|b|c", "alt{name a, name b, name c}"},
		{"a&b&c&d&e", "all{name a, name b, name c, name d, name e}"},
		{"a b&c d|e&f", "alt{all{seq{name a, name b}, seq{name c, name d}}, all{name e, name f}}"},
		{"a|b c&d", "alt{name a, all{seq{name b, name c}, name d}}"},
		{"a*", "star{name a}"},
		{"a+", "plus{name a}"},
		{"a?", "maybe{name a}"},
		{"a*+?", "maybe{plus{star{name a}}}"},
		{"a?+*", "star{plus{maybe{name a}}}"},
		{"a**", "star{star{name a}}"},
		{"a b*", "seq{name a, star{name b}}"},
		{"(a b)*", "star{seq{name a, name b}}"},
		{"()*", "star{empty}"},
		{"(a)", "name a"},
		{"((a))", "name a"},
		{"(a|b)|c", "alt{alt{name a, name b}, name c}"},
		{"a (b c)", "seq{name a, seq{name b, name c}}"},
		{"a&(b&c)", "all{name a, all{name b, name c}}"},
		{"(a|b)&(c|d) e", "all{alt{name a, name b}, seq{alt{name c, name d}, name e}}"},
		// no blank is needed but between two words
		{"a@b", "seq{name a, category b}"},
		{"@a b", "seq{category a, name b}"},
		{"@a@b", "seq{category a, category b}"},
		{"a#text", "seq{name a, text}"},
		{"#texta", "seq{text, name a}"},
		{"#text#text", "seq{text, text}"},
		{"a()b", "seq{name a, empty, name b}"},
		{"a(b)c", "seq{name a, name b, name c}"},
		{"a*b", "seq{star{name a}, name b}"},
		{"a?b+c", "seq{maybe{name a}, plus{name b}, name c}"},
		// blanks between all signs
		{" a ", "name a"},
		{"  ( a | b ) * ? & @x  ", "all{maybe{star{alt{name a, name b}}}, category x}"},
		{" (  ) + ", "plus{empty}"},
		// the page's example
		{"a (b|c)* & #text", "all{seq{name a, star{alt{name b, name c}}}, text}"},
	} {
		if got := tell(parse(t, row[0])); got != row[1] {
			t.Errorf("%q: %s, want %s", row[0], got, row[1])
		}
	}
}

// P14.1: ErrForm, and where.
func TestParseForm(t *testing.T) {
	for _, row := range []struct {
		text string
		at   int
	}{
		{"", 0}, {" ", 1}, {"    ", 4},
		{"*", 0}, {"?", 0}, {"+a", 0}, {"|", 0}, {"&", 0}, {"|a", 0}, {"&a", 0}, {" |a", 1}, {")", 0}, {" )", 1},
		{"A", 0}, {"aB", 1}, {"a_", 1}, {"a\tb", 1}, {"a\nb", 1}, {"\x00", 0}, {"a\x00", 1}, {"a \x00", 2}, {"\x00a", 0}, {"ä", 0}, {"a\xff", 1}, {"a/b", 1}, {"a:", 1}, {"a`", 1}, {"a{", 1}, {"a.", 1}, {"a,b", 1},
		{"a|", 2}, {"a| ", 3}, {"a||b", 2}, {"a|&b", 2}, {"a&", 2}, {"a&&b", 2}, {"a&|b", 2}, {"a&)", 2}, {"a|*", 2},
		{"(", 1}, {"( ", 2}, {"(a", 2}, {"(a ", 3}, {"((a)", 4}, {"(a|", 3}, {"(|a)", 1}, {"(a|)", 3}, {"(a&)", 3}, {"(*)", 1},
		{"a)", 1}, {"a )", 2}, {"())", 2}, {"(a))", 3}, {"a)(b", 1},
		{"@", 1}, {"@ a", 1}, {"@@a", 1}, {"@(a)", 1}, {"@*", 1}, {"@A", 1}, {"a@", 2}, {"@#text", 1}, {"(@)", 2},
		{"#", 1}, {"#t", 2}, {"#tex", 4}, {"#texT", 4}, {"#text|", 6}, {"# text", 1}, {"#te xt", 3}, {"#a", 1}, {"##text", 1}, {"#Text", 1}, {"#tet", 3}, {"a #", 3},
		{"a*|*", 3}, {"a#textA", 6},
	} {
		e, at, code := expr.Parse(row.text)
		if at != row.at || code != api.ErrForm || !reflect.DeepEqual(e, expr.Expr{}) {
			t.Errorf("%q: %s, place %d, error %d, want place %d", row.text, tell(e), at, code, row.at)
		}
	}
}

// P14.1: ErrLong, ahead of all else.
func TestParseLong(t *testing.T) {
	for _, s := range []string{strings.Repeat("a", 256), "a" + strings.Repeat("*", 255), strings.Repeat(" ", 255) + "a", strings.Repeat("a|", 127) + "aa"} {
		parse(t, s)
	}
	for _, s := range []string{strings.Repeat("a", 257), strings.Repeat(" ", 257), strings.Repeat("(", 257), "?" + strings.Repeat("a", 256), strings.Repeat("a", 1<<20)} {
		e, at, code := expr.Parse(s)
		if at != 0 || code != api.ErrLong || !reflect.DeepEqual(e, expr.Expr{}) {
			t.Errorf("%d bytes: place %d, error %d", len(s), at, code)
		}
	}
}

// P14.1: ErrNest, at the bracket that is one too many.
func TestParseNest(t *testing.T) {
	for _, s := range []string{nested(16, "a"), nested(16, "a b"), nested(15, "()"), nested(16, "a") + nested(16, "b"), strings.Repeat("()", 100)} {
		parse(t, s)
	}
	for _, row := range []struct {
		text string
		at   int
		code api.Errno
	}{
		{nested(17, "a"), 16, api.ErrNest},
		{nested(18, "a"), 16, api.ErrNest},
		{nested(16, "()"), 16, api.ErrNest},
		{nested(16, "a ()"), 18, api.ErrNest},
		{nested(16, "a(b)"), 17, api.ErrNest},
		{"  " + nested(16, " a| (b)"), 22, api.ErrNest},
		{nested(16, "a") + nested(17, "a"), 49, api.ErrNest},
		{strings.Repeat("(", 17), 16, api.ErrNest},
		{strings.Repeat("(", 17) + "*", 16, api.ErrNest},
		{strings.Repeat("(", 16), 16, api.ErrForm},
		{strings.Repeat("(", 16) + "*", 16, api.ErrForm},
		{strings.Repeat("(", 16) + "@(a)", 17, api.ErrForm},
		{"*" + nested(17, "a"), 0, api.ErrForm},
		{nested(16, "a") + ")" + nested(17, "a"), 33, api.ErrForm},
	} {
		e, at, code := expr.Parse(row.text)
		if at != row.at || code != row.code || !reflect.DeepEqual(e, expr.Expr{}) {
			t.Errorf("%q: place %d, error %d, want place %d, error %d", row.text, at, code, row.at, row.code)
		}
	}
}

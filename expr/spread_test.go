package expr_test

import (
	"fmt"
	"reflect"
	"strings"
	"testing"

	"beadle/api"
	"beadle/expr"
)

// P14.3: each All is an Alt of all orders of its Kids, rising.
func TestSpread(t *testing.T) {
	for _, row := range [][2]string{
		{"a", "name a"}, {"@a", "category a"}, {"#text", "text"}, {"()", "empty"},
		{"a (b|c)*+?", "seq{name a, maybe{plus{star{alt{name b, name c}}}}}"},
		{"a&b", "alt{seq{name a, name b}, seq{name b, name a}}"},
		{"a&a", "alt{seq{name a, name a}, seq{name a, name a}}"},
		{"x (a&@b)*", "seq{name x, star{alt{seq{name a, category b}, seq{category b, name a}}}}"},
		{"a b&c", "alt{seq{seq{name a, name b}, name c}, seq{name c, seq{name a, name b}}}"},
		{"(a&b)?&c", "alt{seq{maybe{alt{seq{name a, name b}, seq{name b, name a}}}, name c}, seq{name c, maybe{alt{seq{name a, name b}, seq{name b, name a}}}}}"},
	} {
		e, code := expr.Spread(parse(t, row[0]))
		if code != api.OK || tell(e) != row[1] {
			t.Errorf("%q: %s, error %d, want %s", row[0], tell(e), code, row[1])
		}
	}
	for text, want := range map[string]string{
		"a&b&c":   "abc acb bac bca cab cba",
		"a&b&c&d": "abcd abdc acbd acdb adbc adcb bacd badc bcad bcda bdac bdca cabd cadb cbad cbda cdab cdba dabc dacb dbac dbca dcab dcba",
	} {
		e, code := expr.Spread(parse(t, text))
		var rows []string
		for _, k := range e.Kids {
			rows = append(rows, strings.ReplaceAll(expr.Show(k), " ", ""))
		}
		if code != api.OK || e.Kind != expr.Alt || strings.Join(rows, " ") != want {
			t.Errorf("%q: %v, error %d", text, rows, code)
		}
	}
}

// alts: an Alt of n words, of the Size n+1.
func alts(n int) string {
	return "(" + strings.Repeat("a|", n-1) + "a)"
}

func starred(n int, s string) string {
	return s + strings.Repeat("*", n)
}

// P14.3: ErrBig.
func TestSpreadBig(t *testing.T) {
	for _, row := range []struct {
		text string
		size int // 0 for ErrBig
	}{
		{"a&b&c&d", 1 + 24*5},
		{"a&b&c&d&e", 0},
		{"(a&b&c&d&e)*", 0},
		{"x|(a&b&c&d&e) y", 0},
		{"a&(a&b&c&d&e)", 0},
		{"a&b&c&" + starred(167, "d"), 1 + 24*(1+3+168)},             // 4129
		{"a&b&c&" + starred(166, "d"), 1 + 24*(1+3+167)},             // 4105
		{"a&b&c&" + starred(165, "d"), 1 + 24*(1+3+166)},             // 4081
		{starred(15, "(a&b&c&"+starred(165, "d")+")"), 4096},         // all around it counts
		{starred(16, "(a&b&c&"+starred(165, "d")+")"), 0},            // 4097
		{"x (a&b&c&" + starred(165, "d") + ") y@z" + alts(10), 4096}, // 4081 and 4 and 11
		{"x (a&b&c&" + starred(165, "d") + ") y@z" + alts(11), 0},
		{"(a&b&c)&(a&b&c)&(a&b&c)", 1 + 6*(1+3*25)},
		{"(a&b&c)&(a&b&c)&(a&b&c)&(a&b&c)", 1 + 24*(1+4*25)},
		{"(a&b&c&d)&(a&b&c&d)&(a&b&c&d)", 1 + 6*(1+3*121)},
		{"(a&b&c&d)&(a&b&c&d)&(a&b&c&d)&e", 0},
		{strings.Repeat("(a&b&c&d)", 28), 1 + 28*121},
	} {
		want := row.size
		if want > 4096 {
			want = 0
		}
		in := parse(t, row.text)
		e, code := expr.Spread(in)
		if want == 0 {
			if code != api.ErrBig || !reflect.DeepEqual(e, expr.Expr{}) {
				t.Errorf("%q: Size %d, error %d, want ErrBig", row.text, expr.Size(e), code)
			}
		} else if code != api.OK || expr.Size(e) != want {
			t.Errorf("%q: Size %d, error %d, want %d", row.text, expr.Size(e), code, want)
		}
	}
}

// P14.3: ErrBig of expressions made by hand, that are too big without any All.
func TestSpreadBigByHand(t *testing.T) {
	for _, n := range []int{4095, 4096} {
		e := expr.Expr{Kind: expr.Alt, Kids: make([]expr.Expr, n)}
		out, code := expr.Spread(e)
		if fits := n < 4096; fits != (code == api.OK) || fits != (len(out.Kids) == n) || !fits && code != api.ErrBig {
			t.Errorf("%d kids: error %d", n, code)
		}
	}
	wide := expr.Expr{}
	for range 60 { // of the Size 2^61 - 1, were it gone through whole
		wide = expr.Expr{Kind: expr.Seq, Kids: []expr.Expr{wide, wide}}
	}
	if _, code := expr.Spread(wide); code != api.ErrBig {
		t.Errorf("wide: error %d", code)
	}
}

// Spread's answer is new: no two lists of it are one, nor one of e's.
func TestSpreadNew(t *testing.T) {
	e := parse(t, "(a|b)&c&(d e)*|(f g)")
	before := tell(e)
	out, _ := expr.Spread(e)
	seen := map[*expr.Expr]string{}
	var each func(where string, e expr.Expr)
	each = func(where string, e expr.Expr) {
		for i := range e.Kids {
			at := fmt.Sprintf("%s/%d", where, i)
			if other, ok := seen[&e.Kids[i]]; ok {
				t.Errorf("%s is %s", at, other)
			}
			seen[&e.Kids[i]] = at
			each(at, e.Kids[i])
		}
	}
	each("in", e)
	each("out", out)
	if tell(e) != before {
		t.Errorf("changed: %s", tell(e))
	}
}

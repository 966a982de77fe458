package auto_test

import (
	"fmt"
	"math/rand"
	"slices"
	"strings"
	"testing"

	"beadle/api"
	"beadle/auto"
	"beadle/expr"
)

func made(t *testing.T, s string) *auto.Auto {
	t.Helper()
	e, at, code := expr.Parse(s)
	if code != api.OK {
		t.Fatalf("Parse(%q): place %d, error %d", s, at, code)
	}
	a, code := auto.New(e)
	if a == nil || code != api.OK {
		t.Fatalf("New(%q): error %d", s, code)
	}
	return a
}

// row of items, one a word: a name, behind it @ and a category each; #text is text.
func row(s string) []auto.Item {
	var out []auto.Item
	for _, word := range strings.Fields(s) {
		parts := strings.Split(word, "@")
		item := auto.Item{Name: parts[0], Cats: parts[1:]}
		if word == "#text" {
			item = auto.Item{Text: true}
		}
		out = append(out, item)
	}
	return out
}

// P15.1: how far a row goes, and whether it is whole there; P15.2: what could stand behind all of it.
func TestRows(t *testing.T) {
	for _, c := range []struct {
		text, row string
		n         int
		whole     bool
		next      string
	}{
		// the page's example
		{"a (b|c)* d", "a b x", 2, false, ""},
		{"a (b|c)* d", "a b", 2, false, "b c d"},
		// a name
		{"a", "", 0, false, "a"},
		{"a", "a", 1, true, ""},
		{"a", "a a", 1, true, ""},
		{"a", "b", 0, false, ""},
		{"a", "A", 0, false, ""},
		{"a", "b@a", 0, false, ""},
		{"a", "#text", 0, false, ""},
		// a category
		{"@a", "", 0, false, "@a"},
		{"@a", "a", 0, false, ""},
		{"@a", "b@a", 1, true, ""},
		{"@a", "@a", 1, true, ""},
		{"@a", "b@c@d@a@e", 1, true, ""},
		{"@a", "a@b", 0, false, ""},
		{"@a", "a@aa", 0, false, ""},
		// text
		{"#text", "", 0, false, "#text"},
		{"#text", "#text", 1, true, ""},
		{"#text", "#text #text", 1, true, ""},
		{"#text", "a", 0, false, ""},
		// nothing
		{"()", "", 0, true, ""},
		{"()", "a", 0, true, ""},
		{"() a ()", "a", 1, true, ""},
		{"()*", "a", 0, true, ""},
		// one behind the other
		{"a b c", "a b", 2, false, "c"},
		{"a b c", "a b c", 3, true, ""},
		{"a b c", "a c b", 1, false, ""},
		{"a b c", "b", 0, false, ""},
		// one of them
		{"a|b|c", "", 0, false, "a b c"},
		{"a|b|c", "c", 1, true, ""},
		{"a|b|c", "c a", 1, true, ""},
		{"a b|a c", "a", 1, false, "b c"},
		{"a|()", "", 0, true, "a"},
		{"a|a b", "a", 1, true, "b"},
		// each of them
		{"a&b", "", 0, false, "a b"},
		{"a&b", "b", 1, false, "a"},
		{"a&b", "b a", 2, true, ""},
		{"a&b", "a a", 1, false, ""},
		{"a&b&c&d", "c a d", 3, false, "b"},
		{"a&b&c&d", "d c b a", 4, true, ""},
		{"a b&c", "a c", 1, false, ""},
		{"a b&c", "a", 1, false, "b"},
		{"a b&c", "c a b", 3, true, ""},
		{"a?&b", "b", 1, true, "a"},
		{"a*&b", "a a b a", 3, true, ""},
		{"a*&b", "a a", 2, false, "a b"},
		{"a*&b*", "b b a", 3, true, "a"},
		// any number of times
		{"a*", "", 0, true, "a"},
		{"a*", "a a a b a", 3, true, ""},
		{"a*", "a a a", 3, true, "a"},
		{"a+", "", 0, false, "a"},
		{"a+", "a", 1, true, "a"},
		{"a+", "b", 0, false, ""},
		{"a?", "", 0, true, "a"},
		{"a?", "a", 1, true, ""},
		{"a?", "a a", 1, true, ""},
		{"(a b)*", "a b a", 3, false, "b"},
		{"(a b)*", "a b a b", 4, true, "a"},
		{"(a b)+", "a b a b c", 4, true, ""},
		{"(a b)+", "", 0, false, "a"},
		{"(a b?)+", "a a b", 3, true, "a"},
		{"(a*)*", "a a", 2, true, "a"},
		{"((a|())*)+ b", "a a", 2, false, "a b"},
		{"(a*b*)+", "b a b", 3, true, "a b"},
		{"a+?", "", 0, true, "a"},
		{"a?+", "a a", 2, true, "a"},
		// the tests of Next: each once, rising by their bytes
		{"(z|b|-|9|@b|@a|#text|b|bb)*", "", 0, true, "#text - 9 @a @b b bb z"},
		{"(z|b|@a|#text)* b (b|@a)", "b@a", 1, false, "#text @a b z"},
		{"a b|@x c|#text d", "", 0, false, "#text @x a"},
		// another way of reading counts too
		{"a b|@x c", "a@x", 1, false, "b c"},
		{"a b|@x c", "a@x c", 2, true, ""},
		{"a b|@x c", "a", 1, false, "b"},
		{"(a|@x)* @x", "a a@x", 2, true, "@x a"},
		{"@x? a", "a@x", 1, true, "a"},
		{"@x? @y? a", "q@x@y a", 2, true, ""},
		{"(@x|@y)+", "q@y@x r@x s", 2, true, ""},
		// contents of layer 16
		{"(dt+ dd+)*", "dt dt dd dd dt", 5, false, "dd dt"},
		{"(dt+ dd+)*", "dt dt dd dd", 4, true, "dd dt"},
		{"(dt+ dd+)*", "dd", 0, true, ""},
		{"head body", "head", 1, false, "body"},
		{"figcaption? (@flow|#text)*|(@flow|#text)* figcaption", "#text p@flow figcaption", 3, true, ""},
		{"figcaption? (@flow|#text)*|(@flow|#text)* figcaption", "figcaption #text figcaption", 2, true, ""},
		{"figcaption? (@flow|#text)*|(@flow|#text)* figcaption", "", 0, true, "#text @flow figcaption"},
		{"caption? colgroup* thead? (tbody*|tr+) tfoot?", "colgroup tr", 2, true, "tfoot tr"},
		{"caption? colgroup* thead? (tbody*|tr+) tfoot?", "caption", 1, true, "colgroup tbody tfoot thead tr"},
		{"caption? colgroup* thead? (tbody*|tr+) tfoot?", "tbody tr", 1, true, ""},
	} {
		a := made(t, c.text)
		for range 2 { // with nothing kept, and with all kept
			n, whole := a.Run(row(c.row))
			if n != c.n || whole != c.whole {
				t.Errorf("%q of %q: %d %v, want %d %v", c.text, c.row, n, whole, c.n, c.whole)
			}
			if next := strings.Join(a.Next(row(c.row)), " "); next != c.next {
				t.Errorf("%q behind %q: %q, want %q", c.text, c.row, next, c.next)
			}
		}
	}
}

// P15.1: of a text, Name and Cats count for nothing; a name is never taken for a category's test, or text's.
func TestItems(t *testing.T) {
	for _, c := range []struct {
		text string
		item auto.Item
		n    int
	}{
		{"a", auto.Item{Name: "a", Text: true}, 0},
		{"@a", auto.Item{Cats: []string{"a"}, Text: true}, 0},
		{"#text", auto.Item{Name: "a", Cats: []string{"a"}, Text: true}, 1},
		{"a|@a", auto.Item{Name: "a", Cats: []string{"a"}, Text: true}, 0},
		{"@a", auto.Item{Name: "@a"}, 0},
		{"#text", auto.Item{Name: "#text"}, 0},
		{"#text", auto.Item{}, 0},
		{"#text", auto.Item{Cats: []string{"#text", "text", ""}}, 0},
		{"@a", auto.Item{Cats: []string{"@a", "", "aa"}}, 0},
		{"@a", auto.Item{Cats: []string{"a", "a"}}, 1},
		{"()", auto.Item{}, 0},
		{"@text", auto.Item{Text: true}, 0},
		{"text", auto.Item{Text: true}, 0},
		{"@a", auto.Item{Cats: slices.Repeat([]string{"x", "y", "a"}, 100000)}, 1},
	} {
		if n, whole := made(t, c.text).Run([]auto.Item{c.item}); n != c.n || whole != (n == 1 || c.text == "()") {
			t.Errorf("%q: %d %v, want %d", c.text, n, whole, c.n)
		}
	}
}

// P15.1: Spread's errors.
func TestNewErrors(t *testing.T) {
	for _, s := range []string{"a&b&c&d&e", "a&b&c&" + "d" + strings.Repeat("*", 200)} {
		e, _, _ := expr.Parse(s)
		if a, code := auto.New(e); a != nil || code != api.ErrBig {
			t.Errorf("%q: %v, error %d", s, a, code)
		}
	}
}

// P15.1, P15.2: of nil.
func TestNil(t *testing.T) {
	for _, a := range []*auto.Auto{nil, {}} {
		for _, s := range []string{"", "a", "#text b@c"} {
			if n, whole := a.Run(row(s)); n != 0 || whole {
				t.Errorf("Run: %d %v", n, whole)
			}
			if next := a.Next(row(s)); len(next) > 0 {
				t.Errorf("Next: %v", next)
			}
		}
		if a.States() != 0 {
			t.Errorf("States: %d", a.States())
		}
	}
}

// Nothing that is handed in is changed or kept, and Next's answer is new.
func TestNew(t *testing.T) {
	e, _, _ := expr.Parse("a (b|c)* & @d")
	before := expr.Show(e)
	a, _ := auto.New(e)
	if expr.Show(e) != before {
		t.Errorf("changed: %s", expr.Show(e))
	}
	for i := range e.Kids {
		e.Kids[i] = expr.Expr{}
	}
	items := row("a b x@d y@d")
	if n, whole := a.Run(items); n != 3 || !whole {
		t.Errorf("%d %v", n, whole)
	}
	next := a.Next(items[:1])
	if fmt.Sprint(next) != "[@d b c]" {
		t.Errorf("%v", next)
	}
	clear(next)
	clear(items[2].Cats)
	if next := a.Next(row("a")); fmt.Sprint(next) != "[@d b c]" {
		t.Errorf("%v", next)
	}
	if n, _ := a.Run(row("a b x@d")); n != 3 {
		t.Errorf("%d", n)
	}
}

// P15.3: an expression whose states double with each sign; what was taken nine items ago tells whether a row is whole.
func TestStates(t *testing.T) {
	a := made(t, "(a|b)* a"+strings.Repeat(" (a|b)", 9))
	r := rand.New(rand.NewSource(15))
	most := 0
	for range 400 {
		items := make([]auto.Item, r.Intn(300))
		for i := range items {
			items[i].Name = string("ab"[r.Intn(2)])
		}
		n, whole := a.Run(items)
		if want := len(items) > 9 && items[len(items)-10].Name == "a"; n != len(items) || whole != want {
			t.Fatalf("%d of %d, %v", n, len(items), whole)
		}
		if next := a.Next(items); fmt.Sprint(next) != "[a b]" {
			t.Fatalf("%v", next)
		}
		if most = max(most, a.States()); a.States() < 1 || a.States() > api.MaxStates {
			t.Fatalf("%d states", a.States())
		}
	}
	if most < api.MaxStates/2 {
		t.Errorf("no more than %d states", most)
	}
}

// P15.3: as many kinds of items as there are sets of categories; what is told stays the same.
func TestManyKinds(t *testing.T) {
	a := made(t, "(@a|@b|@c|@d|@e|@f|@g|@h|@i|@j|@k) z")
	for round := range 2 {
		for set := range 1 << 11 {
			item := auto.Item{Name: fmt.Sprint(set)}
			for i := range 11 {
				if set>>i&1 == 1 {
					item.Cats = append(item.Cats, string(rune('a'+i)))
				}
			}
			n, whole := a.Run([]auto.Item{item, {Name: "z"}})
			if want := min(set, 1) * 2; n != want || whole != (want == 2) {
				t.Fatalf("round %d, set %b: %d %v", round, set, n, whole)
			}
			if a.States() > api.MaxStates {
				t.Fatalf("%d states", a.States())
			}
		}
	}
}

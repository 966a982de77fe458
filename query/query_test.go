package query_test

import (
	"math"
	"slices"
	"testing"

	"beadle/api"
	"beadle/dom"
	"beadle/dump"
	"beadle/query"
)

// list is a document with nodes of all kinds; the number of a node is that of its line without attributes' lines.
const list = `1 doctype "ul"
1 comment "c"
1 element "ul"
2 attr "id" "x"
2 attr "class" ""
2 element "li"
3 attr "id" "y"
3 text "a"
3 element "b"
4 text "b"
4 comment "li"
4 element "li"
5 text "c"
3 text "d"
2 text ""
2 element "li"
1 element "p"
2 text "e"
`

func read(t *testing.T, s string) *dom.Tree {
	t.Helper()
	d, line, e := dump.Read(s)
	if e != api.OK {
		t.Fatalf("line %d: %d", line, e)
	}
	return d
}

func wantList(t *testing.T, what string, got []int, want ...int) {
	t.Helper()
	if !slices.Equal(got, want) {
		t.Errorf("%s: %v, want %v", what, got, want)
	}
}

// noNodes are numbers that no node of the list has.
func noNodes() []int {
	return []int{-1, -2, 16, 17, math.MaxInt, math.MinInt}
}

// P13.1
func TestElements(t *testing.T) {
	d := read(t, list)
	wantList(t, "all", query.Elements(d), 3, 4, 6, 9, 13, 14)
	d.Put(14, 0, 1)
	d.Put(9, 4, 5)
	wantList(t, "in order", query.Elements(d), 14, 3, 4, 9, 6, 13)
	d.Take(4)
	wantList(t, "without what stands nowhere", query.Elements(d), 14, 3, 13)
	wantList(t, "of a new tree", query.Elements(dom.New()))
	wantList(t, "of no elements", query.Elements(read(t, "1 doctype \"html\"\n1 text \"x\"\n")))
	wantList(t, "of a nil tree", query.Elements(nil))
}

// P13.1
func TestValue(t *testing.T) {
	d := read(t, list)
	d.Make(dom.Node{Kind: dom.Element, Attrs: []api.Attr{{Name: "a", Value: "1"}, {Name: "b", Value: "2"}, {Name: "a", Value: "3"}, {Name: "", Value: "4"}}})
	d.Make(dom.Node{Kind: dom.Text, Name: "a", Attrs: []api.Attr{{Name: "a", Value: "1"}}})
	d.Make(dom.Node{Kind: dom.Comment, Attrs: []api.Attr{{Name: "a", Value: "1"}}})
	d.Make(dom.Node{Kind: dom.Doctype, Attrs: []api.Attr{{Name: "a", Value: "1"}}})
	for _, r := range []struct {
		n           int
		name, value string
		ok          bool
	}{
		{3, "id", "x", true},
		{3, "class", "", true},
		{4, "id", "y", true},
		{4, "class", "", false},
		{3, "ID", "", false},
		{3, "i", "", false},
		{3, "idx", "", false},
		{3, "", "", false},
		{3, "x", "", false},
		{13, "id", "", false},
		{16, "a", "1", true},
		{16, "b", "2", true},
		{16, "", "4", true},
		{17, "a", "", false},
		{18, "a", "", false},
		{19, "a", "", false},
		{0, "id", "", false},
		{1, "id", "", false},
		{5, "id", "", false},
		{-1, "id", "", false},
		{20, "id", "", false},
		{math.MaxInt, "id", "", false},
		{math.MinInt, "id", "", false},
	} {
		if value, ok := query.Value(d, r.n, r.name); value != r.value || ok != r.ok {
			t.Errorf("%d %q: %q, %v", r.n, r.name, value, ok)
		}
	}
	if value, ok := query.Value(nil, 0, "id"); value != "" || ok {
		t.Errorf("of a nil tree: %q, %v", value, ok)
	}
}

// P13.2
func TestText(t *testing.T) {
	d := read(t, list)
	for n, want := range []string{
		0: "abcde", 1: "", 2: "", 3: "abcd", 4: "abcd", 5: "a", 6: "bc", 7: "b", 8: "",
		9: "c", 10: "c", 11: "d", 12: "", 13: "", 14: "e", 15: "e",
	} {
		if got := query.Text(d, n); got != want {
			t.Errorf("%d: %q, want %q", n, got, want)
		}
	}
	d.Take(6)
	if query.Text(d, 0) != "ade" || query.Text(d, 6) != "bc" {
		t.Errorf("nowhere: %q and %q", query.Text(d, 0), query.Text(d, 6))
	}
	for _, n := range noNodes() {
		if got := query.Text(d, n) + query.Text(nil, n); got != "" {
			t.Errorf("%d: %q", n, got)
		}
	}
	if got := query.Text(nil, 0); got != "" {
		t.Errorf("of a nil tree: %q", got)
	}
}

// P13.2: the Data of texts alone, as it is.
func TestTextAsItIs(t *testing.T) {
	d := dom.New()
	for i, node := range []dom.Node{
		{Kind: dom.Text, Data: " \xff\x00", Name: "n"},
		{Kind: dom.Element, Data: "lost", Name: "n"},
		{Kind: dom.Text},
		{Kind: dom.Doctype, Data: "lost", Name: "n"},
		{Kind: dom.Text, Data: "\n "},
	} {
		d.Put(d.Make(node), 0, -1)
		if want := []string{" \xff\x00", "", "", "", "\n "}[i]; query.Text(d, i+1) != want {
			t.Errorf("%d: %q", i+1, query.Text(d, i+1))
		}
	}
	if got := query.Text(d, 0); got != " \xff\x00\n " {
		t.Errorf("%q", got)
	}
}

// P13.2
func TestAround(t *testing.T) {
	d := read(t, list)
	for _, r := range []struct {
		n     int
		names []string
		want  int
	}{
		{10, []string{"li"}, 9},
		{9, []string{"li"}, 4},
		{9, []string{"b"}, 6},
		{9, []string{"ul"}, 3},
		{9, []string{"ul", "li"}, 4},
		{9, []string{"li", "ul"}, 4},
		{9, []string{"li", "b", "ul"}, 6},
		{9, []string{"p"}, -1},
		{9, []string{"p", "", "ul"}, 3},
		{9, []string{"LI"}, -1},
		{9, []string{""}, -1},
		{9, nil, -1},
		{8, []string{"b"}, 6},
		{5, []string{"ul"}, 3},
		{4, []string{"li"}, -1},
		{4, []string{"ul"}, 3},
		{3, []string{"ul"}, -1},
		{2, []string{"ul"}, -1},
		{1, []string{"ul"}, -1},
		{0, []string{"ul"}, -1},
		{0, []string{""}, -1},
		{3, []string{""}, -1},
		{14, []string{"ul", "p"}, -1},
		{-1, []string{"ul"}, -1},
		{16, []string{"ul"}, -1},
		{math.MaxInt, []string{"ul"}, -1},
		{math.MinInt, []string{"ul"}, -1},
	} {
		if got := query.Around(d, r.n, r.names...); got != r.want {
			t.Errorf("%d in %q: %d, want %d", r.n, r.names, got, r.want)
		}
		if got := query.Around(nil, r.n, r.names...); got != -1 {
			t.Errorf("%d in %q of a nil tree: %d", r.n, r.names, got)
		}
	}
	d.Take(6)
	if query.Around(d, 10, "ul") != -1 || query.Around(d, 10, "b") != 6 {
		t.Error("around what stands nowhere")
	}
	nameless := dom.New()
	nameless.Put(nameless.Make(dom.Node{Kind: dom.Element}), 0, -1)
	nameless.Write('x', 0, 1, -1)
	if query.Around(nameless, 2, "") != 1 || query.Around(nameless, 1, "") != -1 {
		t.Error("the empty name")
	}
}

// P13.2
func TestUnder(t *testing.T) {
	d := read(t, list)
	wantList(t, "li", query.Under(d, 0, "li"), 4, 9, 13)
	wantList(t, "li of ul", query.Under(d, 3, "li"), 4, 9, 13)
	wantList(t, "li of li", query.Under(d, 4, "li"), 9)
	wantList(t, "li of b", query.Under(d, 6, "li"), 9)
	wantList(t, "li of the last", query.Under(d, 9, "li"))
	wantList(t, "two names", query.Under(d, 0, "b", "ul"), 3, 6)
	wantList(t, "a name twice", query.Under(d, 0, "b", "p", "b"), 6, 14)
	wantList(t, "no name", query.Under(d, 0), 3, 4, 6, 9, 13, 14)
	wantList(t, "no name, of li", query.Under(d, 4), 6, 9)
	wantList(t, "the empty name", query.Under(d, 0, ""))
	wantList(t, "another size", query.Under(d, 0, "LI"))
	wantList(t, "a text", query.Under(d, 5))
	wantList(t, "a doctype's name", query.Under(d, 1))
	for _, n := range noNodes() {
		wantList(t, "not there", query.Under(d, n))
		wantList(t, "not there", query.Under(d, n, "li"))
	}
	wantList(t, "of a nil tree", query.Under(nil, 0))
	wantList(t, "of a new tree", query.Under(dom.New(), 0))
	d.Take(6)
	wantList(t, "nowhere", query.Under(d, 6), 9)
	wantList(t, "without it", query.Under(d, 0, "b", "li"), 4, 13)
}

// P13.3
func TestTokensAndStrip(t *testing.T) {
	for _, r := range []struct {
		s     string
		want  []string
		strip string
	}{
		{"", nil, ""},
		{" ", nil, ""},
		{"\t\n\f\r ", nil, ""},
		{"a", []string{"a"}, "a"},
		{" a ", []string{"a"}, "a"},
		{"a b  a", []string{"a", "b"}, "a b a"},
		{"\ta\n\fb\r\nc ", []string{"a", "b", "c"}, "a b c"},
		{"b a b a c", []string{"b", "a", "c"}, "b a b a c"},
		{"a A", []string{"a", "A"}, "a A"},
		{"aa a aaa", []string{"aa", "a", "aaa"}, "aa a aaa"},
		{"a\tb", []string{"a", "b"}, "a b"},
		{"\x0ba\x0bb\x0b", []string{"\x0ba\x0bb\x0b"}, "\x0ba\x0bb\x0b"},
		{"\u00a0a\u2003b\u0085", []string{"\u00a0a\u2003b\u0085"}, "\u00a0a\u2003b\u0085"},
		{"\x00 \x00", []string{"\x00"}, "\x00 \x00"},
		{"\xff \xfe\xc3 \xff \xfe", []string{"\xff", "\xfe\xc3", "\xfe"}, "\xff \xfe\xc3 \xff \xfe"},
		{"é \ufffd é", []string{"é", "\ufffd"}, "é \ufffd é"},
		{"\xc3 \xa4", []string{"\xc3", "\xa4"}, "\xc3 \xa4"},
	} {
		if got := query.Tokens(r.s); !slices.Equal(got, r.want) {
			t.Errorf("Tokens of %q: %q", r.s, got)
		}
		if got := query.Strip(r.s); got != r.strip {
			t.Errorf("Strip of %q: %q", r.s, got)
		}
	}
}

// P13.3: which bytes are blanks.
func TestBlanks(t *testing.T) {
	for c := range 256 {
		s := "a" + string([]byte{byte(c)}) + "a"
		blank := c == 9 || c == 10 || c == 12 || c == 13 || c == 32
		if got := query.Strip(s); (got == "a a") != blank || !blank && got != s {
			t.Errorf("byte %x: %q", c, got)
		}
		if got := query.Tokens(s); (len(got) == 1 && got[0] == "a") != blank {
			t.Errorf("byte %x: %q", c, got)
		}
	}
}

package dump_test

import (
	"fmt"
	"math/rand"
	"reflect"
	"strings"
	"testing"

	"beadle/api"
	"beadle/dom"
	"beadle/dump"
)

// P8.1
func TestQuote(t *testing.T) {
	for _, r := range [][2]string{
		{"", `""`},
		{"a", `"a"`},
		{`"`, `"\""`},
		{`\`, `"\\"`},
		{"\n", `"\n"`},
		{`\n`, `"\\n"`},
		{`a"b\c` + "\nd", `"a\"b\\c\nd"`},
		{"\x00\t\r\x7f\xff\u00e9'n", "\"\x00\t\r\x7f\xff\u00e9'n\""},
	} {
		if got := dump.Quote(r[0]); got != r[1] {
			t.Errorf("Quote(%q): %s", r[0], got)
		}
		for _, behind := range []string{"", "x", `"`, " \"y\"", "\n", `\`} {
			s, rest, ok := dump.Unquote(r[1] + behind)
			if s != r[0] || rest != behind || !ok {
				t.Errorf("Unquote(%s%s): %q %q %t", r[1], behind, s, rest, ok)
			}
		}
	}
}

// P8.1
func TestUnquoteWrong(t *testing.T) {
	for _, s := range []string{
		"", `"`, "a", `a"b"`, ` "a"`, `\"a"`, `'a'`, // no quote ahead, or none behind
		`"a`, `"a\"`, `"a\\\"`, `"\`, `"a\`, // the end
		`"\a"`, `"\t"`, `"\N"`, `"\ "`, "\"\\\n\"", "\"\\\x00\"", `"\x41"`, // signs that Quote doesn't write
		"\"\n\"", "\"a\nb\"",
	} {
		if text, rest, ok := dump.Unquote(s); text != "" || rest != "" || ok {
			t.Errorf("Unquote(%q): %q %q %t", s, text, rest, ok)
		}
	}
}

// P8.1: of all short texts those that begin with a Quote, and no others, are read.
func TestUnquoteShortTexts(t *testing.T) {
	signs := "\"\\\nna"
	quoted := map[string]string{}
	for _, s := range texts(signs, 4) {
		quoted[dump.Quote(s)] = s
	}
	for _, s := range texts(signs, 6) {
		want, rest, wantOK := "", "", false
		for i := range len(s) + 1 {
			if text, ok := quoted[s[:i]]; ok {
				want, rest, wantOK = text, s[i:], true
			}
		}
		if got, behind, ok := dump.Unquote(s); got != want || behind != rest || ok != wantOK {
			t.Errorf("Unquote(%q): %q %q %t", s, got, behind, ok)
		}
	}
}

// texts are all of those signs, up to that length.
func texts(signs string, most int) []string {
	out := []string{""}
	for from, n := 0, 0; n < most; n++ {
		end := len(out)
		for _, s := range out[from:end] {
			for i := range len(signs) {
				out = append(out, s+signs[i:i+1])
			}
		}
		from = end
	}
	return out
}

// sample is a tree with all kinds of nodes, some of which stand nowhere.
func sample() *dom.Tree {
	d := dom.New()
	put := func(parent int, n dom.Node) int {
		number := d.Make(n)
		d.Put(number, parent, -1)
		return number
	}
	put(0, dom.Node{Kind: dom.Doctype, At: 1, Name: "html", Data: "no"})
	put(0, dom.Node{Kind: dom.Comment, At: 2, Name: "no", Data: " c\n", Attrs: []api.Attr{{Name: "no"}}})
	html := put(0, dom.Node{Kind: dom.Element, At: 3, Name: "html", Data: "no", Attrs: []api.Attr{{Name: "lang", Value: "en"}, {Name: "x"}}})
	d.Make(dom.Node{Kind: dom.Element, Name: "nowhere"})
	body := put(html, dom.Node{Kind: dom.Element, Name: "body"})
	put(html, dom.Node{Kind: dom.Text, Data: `"\`})
	p := put(body, dom.Node{Kind: dom.Element, Attrs: []api.Attr{{Name: "\n", Value: `"`}}})
	d.Write('a', 0, p, -1)
	first := d.Make(dom.Node{Kind: dom.Element, Name: "first"})
	d.Put(first, body, p)
	return d
}

const sampleText = `1 doctype "html"
1 comment " c\n"
1 element "html"
2 attr "lang" "en"
2 attr "x" ""
2 element "body"
3 element "first"
3 element ""
4 attr "\n" "\""
4 text "a"
2 text "\"\\"
`

// P8.2
func TestShow(t *testing.T) {
	if got := dump.Show(sample()); got != sampleText {
		t.Errorf("Show:\n%s", got)
	}
	if dump.Show(nil) != "" || dump.Show(dom.New()) != "" {
		t.Error("Show of nothing")
	}
}

// P8.2
func TestShowTellsAttrsTwice(t *testing.T) {
	d := dom.New()
	d.Put(d.Make(dom.Node{Kind: dom.Element, Name: "a", Attrs: []api.Attr{{Name: "x"}, {Name: "x"}}}), 0, -1)
	if got := dump.Show(d); got != "1 element \"a\"\n2 attr \"x\" \"\"\n2 attr \"x\" \"\"\n" {
		t.Error(got)
	}
}

// P8.3
func TestRead(t *testing.T) {
	d, line, e := dump.Read(sampleText)
	if line != 0 || e != api.OK || dump.Show(d) != sampleText {
		t.Fatalf("%d %d", line, e)
	}
	want := []dom.Node{
		{Kind: dom.Document},
		{Kind: dom.Doctype, Name: "html"},
		{Kind: dom.Comment, Data: " c\n"},
		{Kind: dom.Element, Name: "html", Attrs: []api.Attr{{Name: "lang", Value: "en"}, {Name: "x"}}},
		{Kind: dom.Element, Name: "body"},
		{Kind: dom.Element, Name: "first"},
		{Kind: dom.Element, Attrs: []api.Attr{{Name: "\n", Value: `"`}}},
		{Kind: dom.Text, Data: "a"},
		{Kind: dom.Text, Data: `"\`},
	}
	if d.Len() != len(want) {
		t.Errorf("%d nodes", d.Len())
	}
	for n := range want {
		if got, ok := d.Get(n); !ok || !reflect.DeepEqual(got, want[n]) {
			t.Errorf("node %d: %v", n, got)
		}
	}
	for n, parent := range []int{-1, 0, 0, 0, 3, 4, 4, 6, 3} {
		if got := d.Parent(n); got != parent {
			t.Errorf("parent of %d: %d", n, got)
		}
	}
}

// P8.3
func TestReadNothing(t *testing.T) {
	d, line, e := dump.Read("")
	if d == nil || d.Len() != 1 || line != 0 || e != api.OK {
		t.Errorf("%d %d", line, e)
	}
}

func wantWrong(t *testing.T, s string, want int) {
	t.Helper()
	if d, line, e := dump.Read(s); d != nil || line != want || e != api.ErrForm {
		t.Errorf("Read(%q): line %d, %d; want line %d", s, line, e, want)
	}
}

// P8.3: by its signs.
func TestReadWrongSigns(t *testing.T) {
	ahead := "1 element \"a\"\n"
	for _, s := range []string{
		"", " ", "x", "1", "2 ", "2 text", "2 text ", "2  text \"a\"", "2 text  \"a\"", " 2 text \"a\"", "2 text \"a\" ", "2 text \"a\"x",
		"2 text a", "2 text \"a", "2 text \"a\\\"", "2 text \"\\a\"", "2 text \"a\"\r", "2\ttext \"a\"", "2 text\t\"a\"", "text \"a\"", " text \"a\"",
		"2 Text \"a\"", "2 document \"a\"", "2 \"a\"", "2  \"a\"", "2 texts \"a\"", "2 tex \"a\"", "2 text \"a\" \"b\"",
		"02 text \"a\"", "+2 text \"a\"", "-2 text \"a\"", "2. text \"a\"", "0x2 text \"a\"", "00002 text \"a\"", "0 text \"a\"", "00 text \"a\"", "-1 text \"a\"",
		"2 attr", "2 attr ", "2 attr \"x\"", "2 attr \"x\" ", "2 attr \"x\"\"y\"", "2 attr \"x\"  \"y\"", "2 attr \"x\" y", "2 attr \"x\" \"y", "2 attr \"x\" \"y\" ",
		"2 attr \"x\" \"y\" \"z\"", "2 attr x \"y\"", "2 Attr \"x\" \"y\"", "\xef\xbb\xbf2 text \"a\"", "99999999999999999999 text \"a\"", "2 element \"a\" \"b\"",
	} {
		wantWrong(t, ahead+s+"\n", 2)
		wantWrong(t, ahead+s+"\n"+ahead+"0\n", 2)
	}
	wantWrong(t, "\n", 1)
	wantWrong(t, "1 text \"a\nb\"\n", 1)
}

// P8.3: by its depth.
func TestReadWrongDepths(t *testing.T) {
	for _, r := range []struct {
		s    string
		line int
	}{
		{"0 text \"a\"\n", 1},
		{"2 text \"a\"\n", 1},
		{"1 text \"a\"\n0 text \"a\"\n", 2},
		{"1 text \"a\"\n2 text \"a\"\n", 2},
		{"1 doctype \"a\"\n2 text \"a\"\n", 2},
		{"1 comment \"a\"\n2 text \"a\"\n", 2},
		{"1 comment \"a\"\n3 text \"a\"\n", 2},
		{"1 element \"a\"\n3 text \"a\"\n", 2},
		{"1 element \"a\"\n2 attr \"x\" \"y\"\n3 text \"a\"\n", 3},
		{"1 element \"a\"\n2 element \"a\"\n1 text \"b\"\n2 text \"a\"\n", 4},
		{"1 element \"a\"\n2 element \"a\"\n1 element \"b\"\n3 text \"a\"\n", 4},
		{"1 element \"a\"\n2 text \"a\"\n2 text \"a\"\n3 text \"a\"\n", 4},
	} {
		wantWrong(t, r.s, r.line)
	}
}

// P8.3: an attr.
func TestReadWrongAttrs(t *testing.T) {
	const attr = " attr \"x\" \"y\"\n"
	for _, r := range []struct {
		s    string
		line int
	}{
		{"1" + attr, 1},
		{"2" + attr, 1},
		{"1 text \"a\"\n2" + attr, 2},
		{"1 text \"a\"\n1" + attr, 2},
		{"1 doctype \"a\"\n2" + attr, 2},
		{"1 comment \"a\"\n2" + attr, 2},
		{"1 element \"a\"\n1" + attr, 2},
		{"1 element \"a\"\n3" + attr, 2},
		{"1 element \"a\"\n2" + attr + "3 attr \"z\" \"\"\n", 3},
		{"1 element \"a\"\n2" + attr + "1 attr \"z\" \"\"\n", 3},
		{"1 element \"a\"\n2" + attr + "2" + attr, 3},
		{"1 element \"a\"\n2" + attr + "2 attr \"z\" \"\"\n2 attr \"x\" \"\"\n", 4},
		{"1 element \"a\"\n2 text \"a\"\n2" + attr, 3},
		{"1 element \"a\"\n2 text \"a\"\n3" + attr, 3},
		{"1 element \"a\"\n2 element \"b\"\n2" + attr, 3},
	} {
		wantWrong(t, r.s, r.line)
	}
	d, _, e := dump.Read("1 element \"a\"\n2" + attr + "2 element \"a\"\n3" + attr + "3 attr \"X\" \"y\"\n")
	if e != api.OK || d.Len() != 3 {
		t.Error("two elements may have an attribute of one name each")
	}
}

// P8.3: a last line without a newline.
func TestReadWithoutItsNewline(t *testing.T) {
	lines := strings.SplitAfter(sampleText, "\n")
	for n := 1; n < len(lines); n++ {
		s := strings.Join(lines[:n], "")
		if _, line, e := dump.Read(s); line != 0 || e != api.OK {
			t.Errorf("%d lines: %d %d", n, line, e)
		}
		for cut := 1; cut < len(lines[n-1]); cut++ {
			wantWrong(t, s[:len(s)-cut], n)
		}
	}
	wantWrong(t, sampleText+" ", len(lines))
	wantWrong(t, sampleText+"\n", len(lines))
}

// chain is that many elements in one another.
func chain(deep int) string {
	var s strings.Builder
	for n := range deep {
		fmt.Fprintf(&s, "%d element \"a\"\n", n+1)
	}
	return s.String()
}

// P8.3: depths of at most four digits.
func TestReadDeep(t *testing.T) {
	s := chain(9999)
	d, line, e := dump.Read(s)
	if line != 0 || e != api.OK || dump.Show(d) != s {
		t.Errorf("9999 in one another: %d %d", line, e)
	}
	wantWrong(t, chain(10000), 10000)
	wantWrong(t, s+"10000 attr \"x\" \"\"\n", 10000)
	if _, line, e := dump.Read(s + "10 text \"\"\n11 text \"\"\n"); line != 10001 || e != api.ErrForm {
		t.Errorf("%d %d", line, e)
	}
}

// P8.2, P1
func TestShowDeeper(t *testing.T) {
	d := dom.New()
	for n := range 20000 {
		d.Put(d.Make(dom.Node{Kind: dom.Element, Name: "a"}), n, -1)
	}
	if dump.Show(d) != chain(20000) {
		t.Error("20000 in one another")
	}
}

// P8.3: many attributes of one element.
func TestReadManyAttrs(t *testing.T) {
	var s strings.Builder
	s.WriteString("1 element \"a\"\n")
	for n := range 100000 {
		fmt.Fprintf(&s, "2 attr \"%d\" \"\"\n", n)
	}
	d, line, e := dump.Read(s.String())
	if line != 0 || e != api.OK || dump.Show(d) != s.String() {
		t.Errorf("%d %d", line, e)
	}
	wantWrong(t, s.String()+"2 attr \"50000\" \"\"\n", 100002)
}

// allShows puts into shows what is told of every tree of at most that many lines, of small lines.
func allShows(shows map[string]bool, d *dom.Tree, lines int) {
	s := dump.Show(d)
	if shows[s] || strings.Count(s, "\n") > lines {
		return
	}
	shows[s] = true
	for _, parent := range d.Walk() {
		for _, n := range []dom.Node{
			{Kind: dom.Element, Name: "a"},
			{Kind: dom.Element, Name: "a", Attrs: []api.Attr{{Name: "x", Value: "y"}}},
			{Kind: dom.Element, Name: "a", Attrs: []api.Attr{{Name: "z"}}},
			{Kind: dom.Element, Name: "a", Attrs: []api.Attr{{Name: "x", Value: "y"}, {Name: "z"}}},
			{Kind: dom.Element, Name: "a", Attrs: []api.Attr{{Name: "z"}, {Name: "x", Value: "y"}}},
			{Kind: dom.Text, Data: "a"},
		} {
			again := rebuilt(d)
			if again.Put(again.Make(n), parentOf(again, d, parent), -1) == api.OK {
				allShows(shows, again, lines)
			}
		}
	}
}

// rebuilt is a tree alike, its nodes numbered in the order of Walk.
func rebuilt(d *dom.Tree) *dom.Tree {
	again, numbers := dom.New(), map[int]int{0: 0}
	for _, n := range d.Walk()[1:] {
		node, _ := d.Get(n)
		numbers[n] = again.Make(node)
		again.Put(numbers[n], numbers[d.Parent(n)], -1)
	}
	return again
}

func parentOf(again, d *dom.Tree, n int) int {
	for i, m := range d.Walk() {
		if m == n {
			return again.Walk()[i]
		}
	}
	return -1
}

// P8.3: of all rows of small lines those are read that are told of a tree, and no others; the wrong line is the first that no tree has there.
func TestReadAllSmall(t *testing.T) {
	const most = 4
	shows := map[string]bool{}
	allShows(shows, dom.New(), most)
	var lines []string
	for depth := range most + 1 {
		for _, rest := range []string{"element \"a\"", "text \"a\"", "attr \"x\" \"y\"", "attr \"z\" \"\""} {
			lines = append(lines, fmt.Sprintf("%d %s\n", depth, rest))
		}
	}
	lines = append(lines, "\n")
	read := 0
	var try func(s string, n, wrong int)
	try = func(s string, n, wrong int) {
		if wrong == 0 && !shows[s] {
			wrong = n
		}
		d, line, e := dump.Read(s)
		if line != wrong || (e == api.OK) != (wrong == 0) || (d != nil) != (wrong == 0) {
			t.Errorf("Read(%q): %d %d, want %d", s, line, e, wrong)
		}
		if d != nil {
			read++
			if dump.Show(d) != s {
				t.Errorf("not told again: %q", s)
			}
		}
		if n < most {
			for _, l := range lines {
				try(s+l, n+1, wrong)
			}
		}
	}
	try("", 0, 0)
	if read != len(shows) {
		t.Errorf("%d of %d were read", read, len(shows))
	}
}

// P8.2, P8.3: there and back.
func TestThereAndBack(t *testing.T) {
	signs := []string{"", "a", "\n", `"`, `\`, " ", "\x00", "\xff", "é", "n", "\r", "\\n\""}
	for seed := range int64(300) {
		r := rand.New(rand.NewSource(seed))
		text := func() string { return signs[r.Intn(len(signs))] + signs[r.Intn(len(signs))] }
		d := dom.New()
		for range r.Intn(20) {
			n := dom.Node{Kind: []int{dom.Doctype, dom.Element, dom.Element, dom.Text, dom.Comment}[r.Intn(5)], At: r.Intn(9), Name: text(), Data: text()}
			number := d.Make(n)
			for range r.Intn(3) {
				d.Set(number, api.Attr{Name: text(), Value: text()})
			}
			d.Put(number, r.Intn(d.Len()), -1)
		}
		s := dump.Show(d)
		again, line, e := dump.Read(s)
		if line != 0 || e != api.OK || dump.Show(again) != s {
			t.Fatalf("seed %d: %d %d\n%s", seed, line, e, s)
		}
		if again.Len() != len(d.Walk()) {
			t.Errorf("seed %d: %d nodes", seed, again.Len())
		}
		for i, n := range again.Walk() {
			if i != n {
				t.Errorf("seed %d: node %d was made as %d", seed, i, n)
			}
		}
	}
}

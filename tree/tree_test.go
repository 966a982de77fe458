package tree_test

import (
	"fmt"
	"strings"
	"testing"

	"beadle/api"
	"beadle/dom"
	"beadle/dump"
	"beadle/lexer"
	"beadle/tree"
)

// P11.1
func TestNew(t *testing.T) {
	b := tree.New()
	if b == nil || b.Tree() == nil || b.Tree().Len() != 1 || b.Quirks() || b.Done() || len(b.Wrong()) != 0 {
		t.Error("New isn't a document alone")
	}
	if tree.New().Tree() == b.Tree() {
		t.Error("two Builders share a tree")
	}
}

// P11.1
func TestNilBuilder(t *testing.T) {
	var b *tree.Builder
	if mode, name := b.Token(open("title", 0)); mode != lexer.Data || name != "" {
		t.Errorf("Token: %d, %q", mode, name)
	}
	if b.Tree() != nil || b.Quirks() || !b.Done() || len(b.Wrong()) != 0 {
		t.Error("a nil Builder isn't done")
	}
}

// P1
func TestBuilderThatNewDidNotMake(t *testing.T) {
	var b tree.Builder
	for _, one := range tokens("<p>x<table></b>") {
		b.Token(one)
	}
	if !b.Done() || b.Tree().Len() != 0 || len(b.Wrong()) != 0 {
		t.Error("it does something")
	}
}

// P11.1: the mode and the name of what follows.
func TestTokenTellsModes(t *testing.T) {
	of := map[string]int{"title": lexer.Rcdata, "textarea": lexer.Rcdata, "style": lexer.Raw, "script": lexer.Raw, "xmp": lexer.Raw}
	for name, want := range of {
		b := tree.New()
		for _, step := range []struct {
			token lexer.Token
			mode  int
			name  string
		}{
			{lexer.Token{Kind: lexer.Doctype, Name: "html"}, lexer.Data, ""},
			{open(name, 1), want, name},
			{text('x', 2), want, name},
			{text(0, 3), want, name},
			{lexer.Token{Kind: lexer.Close, Name: name, At: 4}, lexer.Data, ""},
			{text('x', 5), lexer.Data, ""},
			{open(name, 6), want, name},
			{lexer.Token{Kind: lexer.End, At: 7}, lexer.Data, ""},
			{open(name, 8), lexer.Data, ""},
		} {
			mode, until := b.Token(step.token)
			if mode != step.mode || until != step.name {
				t.Errorf("%s: behind %v: %d, %q", name, step.token, mode, until)
			}
		}
		if !b.Done() {
			t.Errorf("%s: not done", name)
		}
	}
}

// P11.1
func TestPlainTextStays(t *testing.T) {
	b := tree.New()
	for _, one := range []lexer.Token{open("plaintext", 0), text('x', 1), text('y', 2), {Kind: lexer.End, At: 3}} {
		if mode, name := b.Token(one); mode != lexer.Plain || name != "plaintext" {
			t.Errorf("%v: %d, %q", one, mode, name)
		}
	}
	checkBodies(t, []row{
		{"<p>a<plaintext></plaintext>b<p>", `p("a") plaintext("</plaintext>b<p>")`, "unclosed-elements@31"},
		{"<table><plaintext>a", `plaintext("a") table`, "unexpected-start-tag@7 unexpected-text-in-table@18 unclosed-elements@19"},
	})
}

// P11.1: an Open that isn't inserted tells no mode.
func TestModesOfWhatIsNotInserted(t *testing.T) {
	b := fed(tokens("<title>")[0])
	if mode, name := b.Token(open("style", 7)); mode != lexer.Data || name != "" {
		t.Errorf("what ends the text: %d, %q", mode, name)
	}
	if mode, name := b.Token(open("b", 8)); mode != lexer.Data || name != "" {
		t.Errorf("b: %d, %q", mode, name)
	}
}

// P11.1
func TestTreeIsTheTreeItself(t *testing.T) {
	b := tree.New()
	d := b.Tree()
	b.Token(open("p", 0))
	if b.Tree() != d || shape(d) != "html(head body(p))" {
		t.Errorf("%s", shape(d))
	}
}

// P11.1
func TestWrongIsToldOnce(t *testing.T) {
	b := fed(open("p", 4))
	first := b.Wrong()
	if told(first) != "missing-doctype@4" || len(b.Wrong()) != 0 {
		t.Errorf("%s", told(first))
	}
	b.Token(open("td", 9))
	if told(b.Wrong()) != "unexpected-start-tag@9" || told(first) != "missing-doctype@4" {
		t.Error("what is told later isn't new memory")
	}
}

// P11.1
func TestDoneBehindTheEnd(t *testing.T) {
	for _, doc := range []string{"", doctype, "<p>", "<title>", "<table>", "<table><tr><td>", "<table><caption>", "<table><tbody>", "</body>", "</html>", "<head>", "</head>", "<html>", "<plaintext>"} {
		b := fed(tokens(doc)...)
		if !b.Done() {
			t.Errorf("%q: not done", doc)
		}
		b.Wrong()
		before := dump.Show(b.Tree())
		for _, one := range tokens("<!--c-->x<p></p><html a=1>" + doctype) {
			b.Token(one)
		}
		if got := dump.Show(b.Tree()); got != before || len(b.Wrong()) != 0 || !b.Done() {
			t.Errorf("%q: what comes behind the End does something: %s", doc, got)
		}
	}
	if fed(open("p", 0)).Done() {
		t.Error("done ahead of the End")
	}
}

// P11.1: the End is told at the place that was handed in.
func TestBuild(t *testing.T) {
	d, quirks, wrong := tree.Build(nil, 7)
	if shape(d) != "html(head body)" || !quirks || told(wrong) != "missing-doctype@7" {
		t.Errorf("%s, %v, %s", shape(d), quirks, told(wrong))
	}
	checkDocuments(t, []row{
		{"<!DOCTYPE html><p a a>\x00&#0;</p/><b", `!html html(head body(p[a=""]("` + "\ufffd" + `")))`,
			"duplicate-attribute@20 unexpected-null-character@22 null-character-reference@23 end-tag-with-trailing-solidus@27 eof-in-tag@32"},
		{"<title>&amp;<b></title><xmp>&amp;</b></xmp>", `html(head(title("&<b>")) body(xmp("&amp;</b>")))`, "missing-doctype@0"},
		{"<p>a<p>b", `html(head body(p("a") p("b")))`, "missing-doctype@0"},
	})
}

// P11.1: nodes have the places of their tokens.
func TestPlacesOfNodes(t *testing.T) {
	d, _, _ := tree.Build(runes(" <!--a--><!DOCTYPE html> <p>x<!--b--><b>y</p>z", 100), 200)
	want := map[string]int{"{a}": 101, "!html": 109, "<html>": 125, "<head>": 125, "<body>": 125, "<p>": 125, "x": 128, "{b}": 129, "y": 140, "z": 145}
	bs := []int{137, 145} // the second one is opened again for the z
	for _, n := range d.Walk()[1:] {
		node, _ := d.Get(n)
		key := node.Data
		switch node.Kind {
		case dom.Doctype:
			key = "!" + node.Name
		case dom.Element:
			key = "<" + node.Name + ">"
		case dom.Comment:
			key = "{" + node.Data + "}"
		}
		at, ok := want[key]
		if key == "<b>" {
			at, ok, bs = bs[0], true, bs[1:]
		}
		if !ok || node.At != at {
			t.Errorf("%s at %d", key, node.At)
		}
	}
}

// P11.1: a token's attributes are neither changed nor kept.
func TestAttributesAreNotShared(t *testing.T) {
	attrs := append(make([]api.Attr, 0, 4), api.Attr{Name: "k", Value: "1"})
	b := fed(open("div", 0), lexer.Token{Kind: lexer.Open, Name: "b", Attrs: attrs}, lexer.Token{Kind: lexer.Open, Name: "html", Attrs: attrs})
	attrs[0].Value = "2"
	for _, one := range tokens("</div>x") {
		b.Token(one)
	}
	if got := shape(b.Tree()); got != `html[k="1"](head body(div(b[k="1"]) b[k="1"]("x")))` || attrs[:2][1] != (api.Attr{}) {
		t.Errorf("%s", got)
	}
}

// P11.1, P3: it is one whether a document is fed at once or scalar by scalar.
func TestParts(t *testing.T) {
	for _, doc := range []string{
		"<p>a<p>b", "<title>a</titl></title>b", "<style><b></style><b>1<p>2</b>3", "<table>x<tr><td>y</table>\x00",
		"<pre>\n\nx<textarea>\n</b></textarea>&amp;", "<plaintext></p>&amp;", "<b/><title",
	} {
		want, quirks, wrong := tree.Build(runes(doc, 0), len(doc))
		l, b := lexer.New(), tree.New()
		tell := func() {
			for one, ok := l.Next(); ok; one, ok = l.Next() {
				l.Mode(b.Token(one))
			}
		}
		var all []api.Diag
		for _, r := range runes(doc, 0) {
			l.Put([]api.Rune{r})
			tell()
			all = append(append(all, l.Wrong()...), b.Wrong()...)
		}
		l.Close(len(doc))
		tell()
		all = append(append(all, l.Wrong()...), b.Wrong()...)
		if shape(b.Tree()) != shape(want) || b.Quirks() != quirks || told(all) != told(wrong) {
			t.Errorf("%q: %s, %s; want %s, %s", doc, shape(b.Tree()), told(all), shape(want), told(wrong))
		}
	}
}

// P11.1: very many markers that are left behind keep nothing waiting.
func TestManyMarkers(t *testing.T) {
	const many = 20000
	doc := doctype + "<b><table>" + strings.Repeat("<td><object></td>", many) + "</table>x" + strings.Repeat("<a>y", many)
	d, _, _ := tree.Build(runes(doc, 0), len(doc))
	// doctype, html, head, body, b, table, tbody, tr, x
	if want := 1 + 9 + 2*many + 2*many; d.Len() != want {
		t.Errorf("%d nodes, want %d", d.Len(), want)
	}
}

// P11.1
func TestVoid(t *testing.T) {
	for _, n := range strings.Fields(voids) {
		if !tree.Void(n) {
			t.Errorf("%s isn't void", n)
		}
	}
	for _, n := range append(strings.Fields(specials), "", "b", "option", "BR", "br ", "basefon", "\xff") {
		if tree.Void(n) != isOne(voids, n) {
			t.Errorf("Void(%q): %v", n, tree.Void(n))
		}
	}
	if n := len(strings.Fields(voids)); n != 15 {
		t.Errorf("%d void ones", n)
	}
}

// P1: tokens that no lexer tells, in every mode.
func TestOddTokens(t *testing.T) {
	odd := []lexer.Token{
		{Kind: -1}, {Kind: 6, Name: "p"}, {Kind: lexer.Text, Value: -1}, {Kind: lexer.Text, Value: 0xD800}, {Kind: lexer.Text, Value: 0x110000},
		{Kind: lexer.Open}, {Kind: lexer.Close}, {Kind: lexer.Open, Name: "P"}, {Kind: lexer.Open, Name: "title"}, {Kind: lexer.Open, Name: "pre"},
		{Kind: lexer.Close, Name: "b", Self: true, Attrs: []api.Attr{{}}}, {Kind: lexer.Comment, Value: 3, Name: "x"}, {Kind: lexer.Doctype, At: -5},
	}
	for _, ahead := range []string{"", doctype, "<html>", "<head>", "</head>", "<body>", "<title>", "<table>", "<table><tbody>", "<table><tr>", "<table><tr><td>", "<table><caption>", "</body>", "<b><p>", "<a><div>"} {
		list := tokens(ahead)
		for _, one := range odd {
			b := fed(list[:len(list)-1]...)
			for range 3 {
				b.Token(one)
			}
			b.Token(lexer.Token{Kind: lexer.End})
			b.Token(lexer.Token{Kind: lexer.End})
			if !b.Done() {
				t.Errorf("%q, %v: not done", ahead, one)
			}
		}
	}
}

// deep is a document of so many div in one another.
func deep(n int) string { return doctype + strings.Repeat("<div>", n) }

// most is how many fit under html and body.
const most = api.MaxDepth - 2

// P11.2
func TestLimit(t *testing.T) {
	at := len(deep(most))
	for _, rest := range []string{"<div>", "<br>", "<b/>", "<title>", "<b k=1>", "<a>", "<table>", "</br>", "</p>", "<textarea/>", "<applet>", "<li>", "<h1/>", "<form>", "<x>"} {
		doc := deep(most) + rest
		d, quirks, wrong := tree.Build(runes(doc+"x</div><td>", 0), len(doc)+11)
		want := fmt.Sprintf("limit-exceeded@%d", at)
		if strings.HasPrefix(rest, "</") {
			want = fmt.Sprintf("unexpected-end-tag@%d %s", at, want)
		}
		if got := told(wrong); got != want {
			t.Errorf("%s: %s", rest, got)
		}
		if d.Len() != 5+most || quirks {
			t.Errorf("%s: %d nodes", rest, d.Len())
		}
	}
}

// P11.2: what isn't pushed may still come.
func TestAtTheLimit(t *testing.T) {
	at := len(deep(most))
	for rest, want := range map[string]string{
		"x<!--c--></div></body>":   "unclosed-elements@",
		"</div><br></div><br><hr>": "",
		"<td><head><body k=1>":     "unexpected-start-tag@",
		"\x00</b>":                 "unexpected-null-character@",
	} {
		doc := deep(most) + rest
		_, _, wrong := tree.Build(runes(doc, 0), len(doc))
		if got := told(wrong); !strings.Contains(got, want) || strings.Contains(got, "limit") {
			t.Errorf("%s: %s", rest, got)
		}
	}
	doc := deep(most-1) + "<div></div><br><p></p><div>x"
	if _, _, wrong := tree.Build(runes(doc, 0), at); strings.Contains(told(wrong), "limit") {
		t.Errorf("%s", told(wrong))
	}
}

// P11.2: nothing further is done with a token of which something was done ahead of the limit.
func TestLimitWithinAToken(t *testing.T) {
	// A b and an i are to be opened again, and there is room for one element alone.
	list := tokens(deep(most-3) + "<p><b><i></p><div><div>")
	for _, c := range []struct {
		token lexer.Token
		mode  int
		wrong string
		more  int // nodes
	}{
		{lexer.Token{Kind: lexer.Open, Name: "textarea", Self: true}, lexer.Rcdata, "non-void-element-with-trailing-solidus@3000", 1},
		{lexer.Token{Kind: lexer.Open, Name: "u", Self: true}, lexer.Data, "limit-exceeded@3000", 1},
		{lexer.Token{Kind: lexer.Open, Name: "br"}, lexer.Data, "limit-exceeded@3000", 1},
		{lexer.Token{Kind: lexer.Open, Name: "xmp", Self: true}, lexer.Data, "limit-exceeded@3000", 1},
		{lexer.Token{Kind: lexer.Close, Name: "br"}, lexer.Data, "unexpected-end-tag@3000 limit-exceeded@3000", 1},
		{lexer.Token{Kind: lexer.Text, Value: 'x'}, lexer.Data, "limit-exceeded@3000", 1},
		{lexer.Token{Kind: lexer.Text}, lexer.Data, "", 0},
		{lexer.Token{Kind: lexer.Comment}, lexer.Data, "", 1},
	} {
		b := fed(list[:len(list)-1]...)
		b.Wrong()
		before := b.Tree().Len()
		c.token.At = 3000
		mode, name := b.Token(c.token)
		isName := ""
		if c.mode != lexer.Data {
			isName = c.token.Name
		}
		if mode != c.mode || name != isName || b.Done() != strings.Contains(c.wrong, "limit") {
			t.Errorf("%v: %d, %q, done %v", c.token, mode, name, b.Done())
		}
		if got := told(b.Wrong()); got != c.wrong || b.Tree().Len() != before+c.more {
			t.Errorf("%v: %s, %d nodes more", c.token, got, b.Tree().Len()-before)
		}
	}
}

// P11.2: what the lexer finds wrong behind a limit is told too.
func TestLexerBehindTheLimit(t *testing.T) {
	doc := deep(most+1) + "</>"
	_, _, wrong := tree.Build(runes(doc, 0), len(doc))
	if len(wrong) != 2 || !strings.Contains(told(wrong), "missing-end-tag-name@") {
		t.Errorf("%s", told(wrong))
	}
}

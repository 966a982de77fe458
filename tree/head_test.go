package tree_test

import (
	"testing"

	"beadle/lexer"
	"beadle/tree"
)

// P11.3: Initial.
func TestInitial(t *testing.T) {
	checkDocuments(t, []row{
		{"", "html(head body)", "missing-doctype@0"},
		{" \t\n\f", "html(head body)", "missing-doctype@4"},
		{" <!--a--> " + doctype, "{a} !html html(head body)", ""},
		{" <!--a--> <!--b-->x", `{a} {b} html(head body("x"))`, "missing-doctype@18"},
		{"\rx", `html(head body("\rx"))`, "missing-doctype@0"},
		{"\x00x", `html(head body("x"))`, "unexpected-null-character@0 missing-doctype@0"},
		{"  <p>", "html(head body(p))", "missing-doctype@2"},
		{"</p>", "html(head body)", "missing-doctype@0 unexpected-end-tag@0"},
		{"</html>", "html(head body)", "missing-doctype@0"},
		{"<!doctype x>", "!x html(head body)", ""},
		{doctype + doctype, "!html html(head body)", "unexpected-doctype@15"},
	})
}

// P11.3
func TestQuirks(t *testing.T) {
	for doc, want := range map[string]bool{
		"": true, "x": true, "<p>": true, doctype: false, "<!doctype HTML>": false, " <!--c-->" + doctype + "x": false,
		"<!DOCTYPE>": true, "<!DOCTYPE x>": true, "<!DOCTYPE html": true, "<!DOCTYPE html x>": true, "<!DOCTYPE htmlx>": true,
		doctype + "<!DOCTYPE x>": false, "<p>" + doctype: true, "<!DOCTYPE x>" + doctype: true,
	} {
		if _, quirks, _ := tree.Build(runes(doc, 0), len(doc)); quirks != want {
			t.Errorf("%q: %v", doc, quirks)
		}
	}
	for _, one := range []lexer.Token{{Kind: lexer.Doctype}, {Kind: lexer.Doctype, Name: "HTML"}, {Kind: lexer.Doctype, Name: "html", Quirks: true}} {
		if !fed(one).Quirks() {
			t.Errorf("%v", one)
		}
	}
	if fed(lexer.Token{Kind: lexer.Comment}).Quirks() {
		t.Error("a comment alone")
	}
}

// P11.3: BeforeHTML.
func TestBeforeHTML(t *testing.T) {
	checkDocuments(t, []row{
		{doctype, "!html html(head body)", ""},
		{doctype + " \n<!--a--> ", "!html {a} html(head body)", ""},
		{doctype + " <!--a--> <html k=1>", `!html {a} html[k="1"](head body)`, ""},
		{doctype + "<html/>", "!html html(head body)", "non-void-element-with-trailing-solidus@15"},
		{doctype + "<div/>", "!html html(head body(div))", "non-void-element-with-trailing-solidus@15 unclosed-elements@21"},
		{doctype + "</p></b></title>x", `!html html(head body("x"))`, "unexpected-end-tag@15 unexpected-end-tag@19 unexpected-end-tag@23"},
		{doctype + "</p> <!--a-->", "!html {a} html(head body)", "unexpected-end-tag@15"},
		{doctype + "</head><!--a-->", "!html html(head {a} body)", ""},
		{doctype + "</body><!--a-->", "!html html(head body {a})", ""},
		{doctype + "</html><!--a-->", "!html html(head body {a})", ""},
		{doctype + "</br><!--a-->", "!html html(head body(br {a}))", "unexpected-end-tag@15"},
		{doctype + "x", `!html html(head body("x"))`, ""},
		{doctype + "\x00<!--a-->", `!html html(head body({a}))`, "unexpected-null-character@15"},
		{doctype + "<head>", "!html html(head body)", ""},
	})
}

// P11.3: BeforeHead.
func TestBeforeHead(t *testing.T) {
	const html = doctype + "<html>" // 21 bytes
	checkDocuments(t, []row{
		{html, "!html html(head body)", ""},
		{html + " \t<!--a--> ", "!html html({a} head body)", ""},
		{html + doctype, "!html html(head body)", "unexpected-doctype@21"},
		{html + "<html k=1><!--a-->", `!html html[k="1"]({a} head body)`, "unexpected-start-tag@21"},
		{html + "<head k=1><!--a-->", `!html html(head[k="1"]({a}) body)`, ""},
		{html + "<head/>", `!html html(head body)`, "non-void-element-with-trailing-solidus@21"},
		{html + "</p></title><!--a-->", "!html html({a} head body)", "unexpected-end-tag@21 unexpected-end-tag@25"},
		{html + "</head><!--a-->", "!html html(head {a} body)", ""},
		{html + "</body><!--a-->", "!html html(head body {a})", ""},
		{html + "</html><!--a-->", "!html html(head body {a})", ""},
		{html + "</br><!--a-->", "!html html(head body(br {a}))", "unexpected-end-tag@21"},
		{html + "<meta>", "!html html(head(meta) body)", ""},
		{html + "<p>", "!html html(head body(p))", ""},
		{html + "x", `!html html(head body("x"))`, ""},
		{html + "\x00 ", `!html html(head body(" "))`, "unexpected-null-character@21"},
	})
}

// P11.3: InHead.
func TestInHead(t *testing.T) {
	const head = doctype + "<head>" // 21 bytes
	checkDocuments(t, []row{
		{head, "!html html(head body)", ""},
		{head + " <!--a-->\n", `!html html(head(" " {a} "\n") body)`, ""},
		{head + doctype + " ", `!html html(head(" ") body)`, "unexpected-doctype@21"},
		{head + "<html k=1> ", `!html html[k="1"](head(" ") body)`, "unexpected-start-tag@21"},
		{head + "<base k=1><link><meta/> ", `!html html(head(base[k="1"] link meta " ") body)`, ""},
		{head + "<title>a&amp;<b></title><style>a&amp;</style><script></scrip></script> ", `!html html(head(title("a&<b>") style("a&amp;") script("</scrip>") " ") body)`, ""},
		{head + "<title/>a</title> ", `!html html(head(title("a") " ") body)`, "non-void-element-with-trailing-solidus@21"},
		{head + "<head k=1> ", `!html html(head(" ") body)`, "unexpected-start-tag@21"},
		{head + "</head> ", `!html html(head " " body)`, ""},
		{head + "</p></title></td> ", `!html html(head(" ") body)`, "unexpected-end-tag@21 unexpected-end-tag@25 unexpected-end-tag@33"},
		{head + "</body><!--a-->", `!html html(head body {a})`, ""},
		{head + "</html><!--a-->", `!html html(head body {a})`, ""},
		{head + "</br><!--a-->", `!html html(head body(br {a}))`, "unexpected-end-tag@21"},
		{head + "<p> ", `!html html(head body(p(" ")))`, ""},
		{head + "x", `!html html(head body("x"))`, ""},
		{head + "\x00<!--a-->", `!html html(head body({a}))`, "unexpected-null-character@21"},
		{head + "<body k=1>", `!html html(head body[k="1"])`, ""},
		{head + "<textarea></textarea>", `!html html(head body(textarea))`, ""},
	})
}

// P11.3: AfterHead.
func TestAfterHead(t *testing.T) {
	const head = doctype + "</head>" // 22 bytes
	checkDocuments(t, []row{
		{head, "!html html(head body)", ""},
		{head + " <!--a-->\n", `!html html(head " " {a} "\n" body)`, ""},
		{head + doctype + " ", `!html html(head " " body)`, "unexpected-doctype@22"},
		{head + "<html k=1> ", `!html html[k="1"](head " " body)`, "unexpected-start-tag@22"},
		{head + "<body k=1> ", `!html html(head body[k="1"](" "))`, ""},
		{head + "<body/>", `!html html(head body)`, "non-void-element-with-trailing-solidus@22"},
		{head + "<base><link><meta> ", `!html html(head(base link meta) " " body)`, "unexpected-start-tag@22 unexpected-start-tag@28 unexpected-start-tag@34"},
		{head + "<title> a</title> <style></style><script>b</script><!--c-->", `!html html(head(title(" a") style script("b")) " " {c} body)`, "unexpected-start-tag@22 unexpected-start-tag@40 unexpected-start-tag@55"},
		{head + "<title>a", `!html html(head(title("a")) body)`, "unexpected-start-tag@22 unclosed-elements@30"},
		{head + "<head> ", `!html html(head " " body)`, "unexpected-start-tag@22"},
		{head + "</head></p></title> ", `!html html(head " " body)`, "unexpected-end-tag@22 unexpected-end-tag@29 unexpected-end-tag@33"},
		{head + "</body><!--a-->", `!html html(head body {a})`, ""},
		{head + "</html><!--a-->", `!html html(head body {a})`, ""},
		{head + "</br> ", `!html html(head body(br " "))`, "unexpected-end-tag@22"},
		{head + "<p>", `!html html(head body(p))`, ""},
		{head + "x", `!html html(head body("x"))`, ""},
		{head + "\x00 ", `!html html(head body(" "))`, "unexpected-null-character@22"},
	})
}

// P11.3: InText.
func TestInText(t *testing.T) {
	checkDocuments(t, []row{
		{doctype + "<title>", "!html html(head(title) body)", "unclosed-elements@22"},
		{doctype + "<title>a</b></title></title>", `!html html(head(title("a</b>")) body)`, "unexpected-end-tag@35"},
		{doctype + "<title>\x00</title>", `!html html(head(title("` + "\ufffd" + `")) body)`, "unexpected-null-character@22"},
		{doctype + "<style>\n</style>", `!html html(head(style("\n")) body)`, ""},
		{doctype + "<p><textarea>a", `!html html(head body(p(textarea("a"))))`, "unclosed-elements@29"},
		{doctype + "<table><style> a", `!html html(head body(table(style(" a"))))`, "unclosed-elements@31"},
		{doctype + "<table><tr><td><xmp>a</xmp>b", `!html html(head body(table(tbody(tr(td(xmp("a") "b"))))))`, "unclosed-elements@43"},
	})
	b := fed(open("title", 0), text(0, 1), text(' ', 2), text('x', 3), lexer.Token{Kind: lexer.Close, Name: "b"}, text(' ', 4))
	if got := shape(b.Tree()); got != `html(head(title("\x00 x") " "))` {
		t.Errorf("%s", got)
	}
}

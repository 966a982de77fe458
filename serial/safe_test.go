package serial_test

import (
	"strings"
	"testing"

	"beadle/api"
	"beadle/dom"
	"beadle/serial"
)

// The chapter's lists.
const (
	phrases   = "span b i em strong code small s u label br img wbr"
	flow      = phrases + " div section article aside header footer nav main blockquote p h1 h2 h3 h4 h5 h6 ul ol dl hr table"
	overFlow  = "body div section article aside header footer nav main blockquote li dd td th"
	overWords = "p h1 h2 h3 h4 h5 h6 dt span b i em strong code small s u label"
	others    = "a pre textarea select form button template svg noscript iframe input thead tfoot caption col colgroup plaintext dir search center Div BODY style\x00"
)

// elementsUnder an element of that name.
func elementsUnder(name string) string {
	switch {
	case isOne(overFlow, name):
		return flow
	case isOne(overWords, name):
		return phrases
	case name == "ul" || name == "ol":
		return "li"
	}
	return map[string]string{
		"head": "base link meta title style script", "dl": "dt dd",
		"table": "tbody", "tbody": "tr", "tr": "td th",
	}[name]
}

// around: a page in which that one stands where an element of its name may.
func around(n node) *dom.Tree {
	switch name := n.Name; {
	case isOne(flow, name):
		return page(n)
	case name == "li":
		return page(element("ul", n))
	case name == "dt" || name == "dd":
		return page(element("dl", n))
	case name == "tbody":
		return page(element("table", n))
	case name == "tr":
		return page(element("table", element("tbody", n)))
	case name == "td" || name == "th":
		return page(element("table", element("tbody", element("tr", n))))
	case name == "head":
		return grown(doctype("html"), element("html", n, element("body")))
	case name == "body":
		return grown(doctype("html"), element("html", element("head"), n))
	}
	return headed([]node{n})
}

func wantSafe(t *testing.T, what string, d *dom.Tree, want bool) {
	t.Helper()
	if got := serial.Safe(d); got != want {
		t.Errorf("%s: %v\n%s", what, got, serial.Write(d))
	}
	if want {
		wantBack(t, d)
	}
}

// P12.3: what stands under what, each under each.
func TestUnderEach(t *testing.T) {
	all := strings.Fields("html head title style script base link meta li dd dt td th tbody tr " + flow + " body " + others)
	for _, over := range all {
		if over == "html" || isOne(others, over) {
			continue
		}
		wantSafe(t, over, around(element(over)), true)
		for _, name := range all {
			wantSafe(t, name+" under "+over, around(element(over, element(name))), isOne(elementsUnder(over), name))
		}
		words := isOne(overFlow+" "+overWords, over)
		wantSafe(t, "text under "+over, around(element(over, text("x"))), words || isOne("title style script", over))
		wantSafe(t, "comment under "+over, around(element(over, comment("x"))), words || isOne("head ul ol dl table tbody tr", over))
		wantSafe(t, "doctype under "+over, around(element(over, doctype("html"))), false)
	}
}

// P12.3
func TestUnderTheDocument(t *testing.T) {
	html := element("html", element("head"), element("body"))
	type nodes = []node
	for i, r := range []struct {
		nodes nodes
		want  bool
	}{
		{nodes{doctype("html"), html}, true},
		{nodes{doctype("html"), comment("a"), html}, true},
		{nodes{doctype("html"), comment("a"), comment(""), html}, true},
		{nil, false},
		{nodes{doctype("html")}, false},
		{nodes{html}, false},
		{nodes{comment("a"), html}, false},
		{nodes{comment("a"), doctype("html"), html}, false},
		{nodes{doctype("html"), html, comment("a")}, false},
		{nodes{doctype("html"), html, html}, false},
		{nodes{doctype("html"), comment("a")}, false},
		{nodes{html, doctype("html")}, false},
		{nodes{doctype("html"), doctype("html"), html}, false},
		{nodes{doctype("html"), text("x"), html}, false},
		{nodes{doctype("html"), text(" "), html}, false},
		{nodes{doctype("html"), element("p"), html}, false},
		{nodes{doctype("html"), html, text("x")}, false},
		{nodes{doctype("html"), comment("--"), html}, false},
		{nodes{doctype("html"), comment("\x00"), html}, false},
		{nodes{doctype("HTML"), html}, false},
		{nodes{doctype(""), html}, false},
		{nodes{doctype("html "), html}, false},
		{nodes{element("html"), html}, false},
		{nodes{doctype("html"), doctype("html")}, false},
		{nodes{doctype("html"), element("HTML", html.kids...)}, false},
		{nodes{doctype("html"), element("p", html.kids...)}, false},
		{nodes{doctype("html"), element("html")}, false},
		{nodes{doctype("html"), element("html", element("head"))}, false},
		{nodes{doctype("html"), element("html", element("body"))}, false},
		{nodes{doctype("html"), element("html", element("body"), element("head"))}, false},
		{nodes{doctype("html"), element("html", element("head"), element("head"))}, false},
		{nodes{doctype("html"), element("html", element("body"), element("body"))}, false},
		{nodes{doctype("html"), element("html", element("head"), element("body"), element("body"))}, false},
		{nodes{doctype("html"), element("html", element("head"), element("head"), element("body"))}, false},
		{nodes{doctype("html"), element("html", comment("a"), element("head"), element("body"))}, false},
		{nodes{doctype("html"), element("html", element("head"), comment("a"), element("body"))}, false},
		{nodes{doctype("html"), element("html", element("head"), element("body"), text("\n"))}, false},
		{nodes{doctype("html"), element("html", doctype("head"), element("body"))}, false},
		{nodes{doctype("html"), element("html", element("head"), element("p"))}, false},
		{nodes{doctype("html"), element("html", element("head"), html)}, false},
	} {
		wantSafe(t, "row "+string(rune('A'+i)), grown(r.nodes...), r.want)
	}
	wantSafe(t, "a nil tree", nil, false)
	wantSafe(t, "a new tree", dom.New(), false)
}

// P12.3: what stands nowhere is not looked at.
func TestWhatStandsNowhere(t *testing.T) {
	d := page()
	n := d.Make(dom.Node{Kind: dom.Element, Name: "?"})
	d.Write(0, 0, n, -1)
	wantSafe(t, "what stands nowhere", d, true)
	d.Put(n, 3, -1)
	wantSafe(t, "what stands there", d, false)
}

// P12.3
func TestTextsSideBySide(t *testing.T) {
	x, y := text("x"), text("y")
	wantSafe(t, "two texts", page(x, y), false)
	wantSafe(t, "two texts in a p", page(element("p", element("b"), x, y)), false)
	wantSafe(t, "two behind another node", page(x, element("b"), x, y, comment("c")), false)
	wantSafe(t, "an element between", page(x, element("p"), y), true)
	wantSafe(t, "a void one between", page(x, element("br"), y), true)
	wantSafe(t, "a comment between", page(x, comment(""), y), true)
	wantSafe(t, "one within the other's brother", page(x, element("b", y), x), true)
	for _, name := range []string{"title", "style", "script"} {
		wantSafe(t, "two in "+name, headed([]node{element(name, x, y)}), false)
		wantSafe(t, "one each in "+name, headed([]node{element(name, x), element(name, y), element(name)}), true)
	}
}

// P12.3
func TestData(t *testing.T) {
	for _, r := range []struct {
		data                 string
		text, comment, value bool
	}{
		{"", false, true, true},
		{"x", true, true, true},
		{"\n", true, true, true},
		{"\nx\n", true, true, true},
		{" \t\f", true, true, true},
		{"\x01\x7f\x0b", true, true, true},
		{"é\u20ac\U0001F600\ufffd\ufeff\uffff\u0085", true, true, true},
		{"&amp;&lt;&#65;&copy&", true, true, true},
		{`"'<>=` + "`/", true, true, true},
		{"</body></html><!doctype>", true, true, true},
		{"x\x00", false, false, false},
		{"\r", false, false, false},
		{"x\r\n", false, false, false},
		{"\xff", false, false, false},
		{"x\x80y", false, false, false},
		{"\xc3", false, false, false},
		{"é\xe2\x82", false, false, false},
		{"\xc0\xbc", false, false, false},
		{"\xed\xa0\x80", false, false, false},
		{"\xf4\x90\x80\x80", false, false, false},
		{">", true, false, true},
		{">x", true, false, true},
		{"->", true, false, true},
		{"->x", true, false, true},
		{"-", true, false, true},
		{"-x", true, true, true},
		{"x-", true, false, true},
		{"x-y", true, true, true},
		{"x->y", true, true, true},
		{"x>", true, true, true},
		{" >", true, true, true},
		{"--", true, false, true},
		{"x--y", true, false, true},
		{"x--!>y", true, false, true},
		{"x-->y", true, false, true},
		{"!>", true, true, true},
		{"x-!>", true, true, true},
		{"x-!", true, true, true},
		{"<!", true, true, true},
		{"<!-", true, false, true},
		{"<!- -", true, false, true},
		{"- -x", true, true, true},
	} {
		wantSafe(t, "text "+r.data, page(element("p", text(r.data))), r.text)
		wantSafe(t, "title "+r.data, headed([]node{element("title", text(r.data))}), r.text)
		wantSafe(t, "style "+r.data, headed([]node{element("style", text(r.data))}), r.text)
		wantSafe(t, "comment "+r.data, page(comment(r.data)), r.comment)
		wantSafe(t, "value "+r.data, page(element("br").with("a", r.data)), r.value)
	}
}

// P12.3
func TestRawText(t *testing.T) {
	for _, r := range []struct {
		data                 string
		title, style, script bool
	}{
		{"</", true, true, true},
		{"<", true, true, true},
		{"</styl", true, true, true},
		{"</ style", true, true, true},
		{"<style><script>", true, true, true},
		{"style script", true, true, true},
		{"</title>", true, true, true},
		{"</style", true, false, true},
		{"</style>", true, false, true},
		{"</stylex", true, false, true},
		{"x</sTyLe>y", true, false, true},
		{"<</STYLE", true, false, true},
		{"</script", true, true, false},
		{"</SCRIPT>", true, true, false},
		{"</\u017ftyle>", true, true, true},
		{"</scr\u0130pt>", true, true, true},
		{"</scr\u0131pt>", true, true, true},
		{"<!--</script", true, true, false},
		{"&lt;/style>", true, true, true},
	} {
		data := text(r.data)
		wantSafe(t, "title "+r.data, headed([]node{element("title", data)}), r.title)
		wantSafe(t, "style "+r.data, headed([]node{element("style", data)}), r.style)
		wantSafe(t, "script "+r.data, headed([]node{element("script", data)}), r.script)
		wantSafe(t, "p "+r.data, page(element("p", data)), true)
	}
}

// P12.3
func TestAttributes(t *testing.T) {
	for _, r := range []struct {
		parts string
		want  bool
	}{
		{"a", true}, {"z", true}, {"0", true}, {"9", true}, {"-", true}, {"--", true},
		{"data-x-1", true}, {"a b c", true}, {"a aa", true}, {"1 2 3 -", true},
		{"A", false}, {"aB", false}, {"_", false}, {"a_", false}, {"a:b", false}, {"a.b", false},
		{"é", false}, {"a=", false}, {`"`, false}, {"<", false}, {"`", false}, {"{", false}, {"/", false}, {":", false}, {".", false}, {",", false},
		{"\x00", false}, {"a\xff", false}, {"a/", false}, {">", false},
		{"a a", false}, {"a b a", false}, {"a b c b", false}, {"a b b", false},
	} {
		var parts []string
		for _, name := range strings.Fields(r.parts) {
			parts = append(parts, name, "v")
		}
		for _, name := range []string{"p", "br", "li", "td", "head", "body", "title", "meta", "img"} {
			wantSafe(t, name+" with "+r.parts, around(element(name).with(parts...)), r.want)
		}
		html := element("html", element("head"), element("body")).with(parts...)
		wantSafe(t, "html with "+r.parts, grown(doctype("html"), html), r.want)
	}
	for _, name := range []string{"", " ", "a b", "a\n", "a\t", "\f"} {
		wantSafe(t, "an attribute "+name, page(element("p").with(name, "v")), false)
	}
	wantSafe(t, "a name in two elements", page(element("p", element("b").with("a", "1")).with("a", "1")), true)
}

// P12.3: attributes and texts are of no matter where nothing tells them.
func TestWhatIsNotWritten(t *testing.T) {
	odd := []api.Attr{{Name: "?"}, {Name: "?"}}
	p := element("p", text("x"))
	p.Data, p.At = "\x00", -7
	p.kids[0].Name, p.kids[0].Attrs = "?", odd
	c := comment("c")
	c.Attrs = odd
	d := doctype("html")
	d.Data, d.Attrs = "\x00", odd
	wantSafe(t, "odd nodes", grown(d, c, element("html", element("head"), element("body", p))), true)
}

// P12.3
func TestDepth(t *testing.T) {
	for _, r := range []struct {
		divs int
		last node
		want bool
	}{
		{api.MaxDepth - 2, text("x"), true},
		{api.MaxDepth - 2, comment("x"), true},
		{api.MaxDepth - 2, element("p"), false},
		{api.MaxDepth - 2, element("br"), false},
		{api.MaxDepth - 2, element("b"), false},
		{api.MaxDepth - 1, text("x"), false},
		{api.MaxDepth - 3, element("p"), true},
		{api.MaxDepth - 3, element("br"), true},
		{api.MaxDepth - 3, element("b", text("x")), true},
		{api.MaxDepth - 3, element("b", element("img")), false},
		{5000, text("x"), false},
	} {
		in := r.last
		for range r.divs {
			in = element("div", in)
		}
		wantSafe(t, in.Name, page(in), r.want)
	}
}

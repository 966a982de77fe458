package serial_test

import (
	"testing"

	"beadle/api"
	"beadle/dom"
	"beadle/serial"
	"beadle/tree"
)

// P12.1
func TestEscape(t *testing.T) {
	for _, r := range []struct{ s, value, text string }{
		{"", "", ""},
		{"a b", "a b", "a b"},
		{"&", "&amp;", "&amp;"},
		{"&&", "&amp;&amp;", "&amp;&amp;"},
		{"&amp;", "&amp;amp;", "&amp;amp;"},
		{"&lt;", "&amp;lt;", "&amp;lt;"},
		{"<", "<", "&lt;"},
		{">", ">", "&gt;"},
		{`"`, "&quot;", `"`},
		{"'", "'", "'"},
		{`<a b="&c">`, "<a b=&quot;&amp;c&quot;>", `&lt;a b="&amp;c"&gt;`},
		{"\x00\t\n\r\xff\xc3", "\x00\t\n\r\xff\xc3", "\x00\t\n\r\xff\xc3"},
		{"é\u00a0\U0001F600", "é\u00a0\U0001F600", "é\u00a0\U0001F600"},
	} {
		if got := serial.Escape(r.s, true); got != r.value {
			t.Errorf("value %q: %q, want %q", r.s, got, r.value)
		}
		if got := serial.Escape(r.s, false); got != r.text {
			t.Errorf("text %q: %q, want %q", r.s, got, r.text)
		}
	}
}

// P12.1
func TestEscapeEachByte(t *testing.T) {
	for c := range 256 {
		s := string([]byte{byte(c)})
		value, text := s, s
		switch c {
		case '&':
			value, text = "&amp;", "&amp;"
		case '"':
			value = "&quot;"
		case '<':
			text = "&lt;"
		case '>':
			text = "&gt;"
		}
		if serial.Escape(s, true) != value || serial.Escape(s, false) != text {
			t.Errorf("byte %x: %q and %q", c, serial.Escape(s, true), serial.Escape(s, false))
		}
	}
}

// P12.2
func TestWrite(t *testing.T) {
	for _, r := range []struct {
		want  string
		nodes []node
	}{
		{"", nil},
		{"<!DOCTYPE html>", []node{doctype("html")}},
		{"<!DOCTYPE >", []node{doctype("")}},
		{"<!DOCTYPE A<&>", []node{doctype("A<&")}},
		{"<!---->", []node{comment("")}},
		{"<!--a<&-->-->", []node{comment("a<&-->")}},
		{"x&lt;&gt;&amp;\"", []node{text(`x<>&"`)}},
		{"a\x00\r\xff", []node{text("a\x00\r\xff")}},
		{"<p></p>", []node{element("p")}},
		{"<P></P>", []node{element("P")}},
		{"<></>", []node{element("")}},
		{"<p>x</p>", []node{element("p", text("x"))}},
		{"<p>xy</p>", []node{element("p", text("x"), text("y"))}},
		{"<p></p><!--c-->x<b></b>", []node{element("p"), comment("c"), text("x"), element("b")}},
		{"<a><!DOCTYPE b><c><!--d--></c></a>", []node{element("a", doctype("b"), element("c", comment("d")))}},
		{"<br>", []node{element("br")}},
		{"<br>x", []node{element("br"), text("x")}},
		{"<div><br></div>", []node{element("div", element("br", text("lost"), element("b")))}},
		{"<style>a<b>&\"</style>", []node{element("style", text(`a<b>&"`))}},
		{"<script>a<b>&\"</script>", []node{element("script", text(`a<b>&"`))}},
		{"<style><b>a&lt;</b><</style>", []node{element("style", element("b", text("a<")), text("<"))}},
		{"<b><style><</style>&lt;</b>", []node{element("b", element("style", text("<")), text("<"))}},
		{"<title>a&lt;</title>", []node{element("title", text("a<"))}},
		{"<xmp>a&lt;</xmp>", []node{element("xmp", text("a<"))}},
		{"<STYLE>a&lt;</STYLE>", []node{element("STYLE", text("a<"))}},
		{"<p a=\"1\" b=\"\"></p>", []node{element("p").with("a", "1", "b", "")}},
		{"<br a=\"<'>&quot;&amp;\">", []node{element("br").with("a", `<'>"&`)}},
		{"<p a=\"1\" a=\"2\" <=\"3\"></p>", []node{element("p").with("a", "1", "a", "2", "<", "3")}},
	} {
		if got := serial.Write(grown(r.nodes...)); got != r.want {
			t.Errorf("%q, want %q", got, r.want)
		}
	}
}

// P12.2: the elements that are void are layer 11's.
func TestWriteVoid(t *testing.T) {
	for _, name := range []string{"area", "base", "br", "col", "embed", "hr", "img", "input", "keygen", "link", "meta", "param", "source", "track", "wbr", "div", "p", "image", "BR", "title", ""} {
		want := "<" + name + ">x</" + name + ">"
		if tree.Void(name) {
			want = "<" + name + ">"
		}
		if got := serial.Write(grown(element(name, text("x")))); got != want {
			t.Errorf("%q, want %q", got, want)
		}
	}
}

// P12.2
func TestWriteNothing(t *testing.T) {
	if got := serial.Write(nil); got != "" {
		t.Errorf("a nil tree: %q", got)
	}
	d := dom.New()
	n := d.Make(dom.Node{Kind: dom.Element, Name: "p"})
	d.Write('x', 0, n, -1)
	if got := serial.Write(d); got != "" {
		t.Errorf("what stands nowhere: %q", got)
	}
	if d.Put(n, 0, -1) != api.OK || serial.Write(d) != "<p>x</p>" {
		t.Errorf("what stands there: %q", serial.Write(d))
	}
}

// P12.2: in the order in which they stand, whatever their numbers are; and what is written stays.
func TestWriteInOrder(t *testing.T) {
	d := grown(element("a"), element("b"), element("c"))
	d.Put(3, 0, 1)
	d.Put(1, 2, -1)
	for range 2 {
		if got := serial.Write(d); got != "<c></c><b><a></a></b>" {
			t.Errorf("%q", got)
		}
	}
}

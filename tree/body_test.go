package tree_test

import (
	"fmt"
	"strings"
	"testing"

	"beadle/api"
	"beadle/lexer"
	"beadle/tree"
)

// each: a check of many names, of which some are meant.
func each(t *testing.T, names string, check func(name string) row) {
	t.Helper()
	for _, n := range strings.Fields(names) {
		checkBodies(t, []row{check(n)})
	}
}

// P11.4: text.
func TestBodyText(t *testing.T) {
	checkBodies(t, []row{
		{"a b\n", `"a b\n"`, ""},
		{"<p><b></p>x", `p(b) b("x")`, "unexpected-end-tag@6 unclosed-elements@11"},
		{"<p><b></p> ", `p(b) b(" ")`, "unexpected-end-tag@6 unclosed-elements@11"},
		{"<p><b></p>\x00", `p(b)`, "unexpected-end-tag@6 unexpected-null-character@10"},
		{"<p><b></p>\x00x", `p(b) b("x")`, "unexpected-end-tag@6 unexpected-null-character@10 unclosed-elements@12"},
		{"<p>x\x00y", `p("xy")`, "unexpected-null-character@4"},
		{"<p>x<!--a-->y", `p("x" {a} "y")`, ""},
		{"<p><b></p><!--a-->", `p(b) {a}`, "unexpected-end-tag@6"},
		{"<p>" + doctype + "x", `p("x")`, "unexpected-doctype@3"},
		{"<textarea>\x00</textarea>", `textarea("` + "\ufffd" + `")`, "unexpected-null-character@10"},
	})
}

// P11.4: a newline right behind the start tag.
func TestNewlineIsLeftOut(t *testing.T) {
	each(t, "pre listing", func(n string) row {
		return row{"<" + n + ">\n\nx</" + n + ">\n", n + `("\nx") "\n"`, ""}
	})
	checkBodies(t, []row{
		{"<textarea>\n\nx</textarea>\n", `textarea("\nx") "\n"`, ""},
		{"<textarea>\n</textarea>", `textarea`, ""},
		{"<pre>&#10;</pre>", `pre`, ""},
		{"<pre> \n</pre>", `pre(" \n")`, ""},
		{"<pre><!--a-->\n</pre>", `pre({a} "\n")`, ""},
		{"<pre><b>\n</b></pre>", `pre(b("\n"))`, ""},
		{"<pre>\r\n</pre>", `pre("\r\n")`, ""},
		{"<pre>\f</pre>", `pre("\f")`, ""},
		{"<p>\n<xmp>\n</xmp><div>\n", `p("\n") xmp("\n") div("\n")`, "unclosed-elements@22"},
		{"x</pre>\n", `"x\n"`, "unexpected-end-tag@1"},
		{"<p><b></p><pre>\n<u>x</u></pre>", `p(b) pre(b(u("x")))`, "unexpected-end-tag@6 unexpected-end-tag@24"},
		{"<table><pre>\nx</pre>", `pre("x") table`, "unexpected-start-tag@7 unexpected-text-in-table@13 unexpected-end-tag@14 unclosed-elements@20"},
	})
}

// P11.4: the end.
func TestEndOfBody(t *testing.T) {
	checkBodies(t, []row{
		{"<p>", "p", ""},
		{"<ul><li>x</ul><li>", `ul(li("x")) li`, ""},
		{"<dl><dd>x</dl><dt>", `dl(dd("x")) dt`, ""},
		{"<optgroup><option>", "optgroup(option)", ""},
		{"<ul><li>", "ul(li)", "unclosed-elements@8"},
		{"<span>", "span", "unclosed-elements@6"},
		{"<p><b>x", `p(b("x"))`, "unclosed-elements@7"},
		{"<b><p>x", `b(p("x"))`, "unclosed-elements@7"},
		{"<div></body>", "div", "unclosed-elements@5"},
		{"<div></html>", "div", "unclosed-elements@5"},
		{"<table><tr><td>", "table(tbody(tr(td)))", "unclosed-elements@15"},
		{"<rt>", "rt", "unclosed-elements@4"},
		{"<select>", "select", "unclosed-elements@8"},
	})
	for _, n := range strings.Fields(specials + " b a span option optgroup") {
		if isOne(voids+" "+cellMarks+" "+headOnes+" textarea xmp html head body", n) {
			continue // none of these stays open by its start tag alone
		}
		want := fmt.Sprintf("unclosed-elements@%d", len(n)+2)
		if isOne(openAtEnd, n) {
			want = ""
		}
		_, _, wrong := tree.Build(runes(doctype+"<"+n+">", -len(doctype)), len(n)+2)
		if got := told(wrong); got != want {
			t.Errorf("%s: %s", n, got)
		}
	}
}

// P11.4: html, body and what is of the head.
func TestOpenAgain(t *testing.T) {
	checkDocuments(t, []row{
		{doctype + "<html a=1><body b=1><p><html a=2 c=3><body b=2 d=4>", `!html html[a="1"][c="3"](head body[b="1"][d="4"](p))`, "unexpected-start-tag@38 unexpected-start-tag@52"},
		{doctype + "<p><html/><body/>", `!html html(head body(p))`, "unexpected-start-tag@18 unexpected-start-tag@25"},
		{doctype + "<p><html k>", `!html html[k=""](head body(p))`, "unexpected-start-tag@18"},
	})
	checkBodies(t, []row{
		{"<p><base><link><meta/>x", `p(base link meta "x")`, ""},
		{"<p><b></p><title>a</title><style>b</style><script>c</script>x", `p(b) title("a") style("b") script("c") b("x")`, "unexpected-end-tag@6 unclosed-elements@61"},
		{"<p><title>a", `p(title("a"))`, "unclosed-elements@11"},
		{"<p><head>x", `p("x")`, "unexpected-start-tag@3"},
	})
	each(t, cellMarks, func(n string) row {
		return row{"<p><" + n + "/>x", `p("x")`, "unexpected-start-tag@3"}
	})
}

// P11.4: blocks.
func TestOpenBlock(t *testing.T) {
	each(t, blocks+" plaintext", func(n string) row {
		wrong := fmt.Sprintf("unclosed-elements@%d", len(n)+5)
		if n == "p" {
			wrong = ""
		}
		return row{"<p><" + n + ">", "p " + n, wrong}
	})
	each(t, blocks, func(n string) row {
		at := len(n) + 11
		wrong := fmt.Sprintf("unexpected-start-tag@6 unclosed-elements@%d", at-2)
		if n == "p" {
			wrong = fmt.Sprintf("unexpected-start-tag@6 unclosed-elements@%d", at-2)
		}
		return row{"<p><b><" + n + ">x", "p(b) " + n + `(b("x"))`, wrong}
	})
	checkBodies(t, []row{
		{"<p><button><p>", "p(button(p))", "unclosed-elements@14"},
		{"<p><object><div>", "p(object(div))", "unclosed-elements@16"},
		{"<p><li><div>", "p li(div)", "unclosed-elements@12"},
		{"<p><option><dd>", "p(option) dd", ""},
		{"<p><span><div>", "p(span) div", "unexpected-start-tag@9 unclosed-elements@14"},
		{"<div/>x", `div("x")`, "non-void-element-with-trailing-solidus@0 unclosed-elements@7"},
		{"<p><hr/>x", `p hr "x"`, ""},
		{"<b><p></b><hr>x", `b p(b) hr "x"`, "misnested-formatting@6"},
		{"<p><b><hr>x", `p(b) hr b("x")`, "unexpected-start-tag@6 unclosed-elements@11"},
	})
	// Names that end no p.
	for _, n := range strings.Fields("span select legend option canvas hgroup iframe template ruby svg frameset frame isindex P") {
		d, _, _ := tree.Build(runes(doctype+"<p><"+n+">", 0), 0)
		if got := underBody(shape(d)); got != "p("+strings.ToLower(n)+")" && n != "P" {
			t.Errorf("%s: %s", n, got)
		}
	}
}

// P11.4: headings.
func TestOpenHeading(t *testing.T) {
	each(t, headings, func(n string) row {
		return row{"<p><" + n + ">x", "p " + n + `("x")`, "unclosed-elements@8"}
	})
	checkBodies(t, []row{
		{"<h1>a<h2>b", `h1("a") h2("b")`, "unexpected-start-tag@5 unclosed-elements@10"},
		{"<h1><b><h2>", `h1(b(h2))`, "unclosed-elements@11"},
		{"<h1><p><h2>", `h1(p) h2`, "unexpected-start-tag@7 unclosed-elements@11"},
		{"<h1><p>x<div>", `h1(p("x") div)`, "unclosed-elements@13"},
		{"<h3>a</h3><h3>b</h3>", `h3("a") h3("b")`, ""},
		{"<h7>a<h1>", `h7("a" h1)`, "unclosed-elements@9"},
		{"<h1/>", `h1`, "non-void-element-with-trailing-solidus@0 unclosed-elements@5"},
	})
}

// P11.4: form.
func TestForm(t *testing.T) {
	checkBodies(t, []row{
		{"<p><form>x</form>y", `p form("x") "y"`, ""},
		{"<form><form k=1>x</form>y", `form("x") "y"`, "unexpected-start-tag@6"},
		{"<form></form><form>", `form form`, "unclosed-elements@19"},
		{"</form>x", `"x"`, "unexpected-end-tag@0"},
		{"<form></form></form>", `form`, "unexpected-end-tag@13"},
		{"<form><p>x</form>y", `form(p("x")) "y"`, ""},
		{"<form><b>x</form>y</b>z", `form(b("xy")) "z"`, "unexpected-end-tag@10"},
		{"<form><div>x</form>y</div>z", `form(div("xy")) "z"`, "unexpected-end-tag@12"},
		{"<div><form></div>x</form>y", `div(form) "xy"`, "unexpected-end-tag@11 unexpected-end-tag@18"},
		// What is noted is noted no more, also where the end tag is wrong.
		{"<form><object></form><form></object>", `form(object(form))`, "unexpected-end-tag@14 unexpected-end-tag@27 unclosed-elements@36"},
		{"<form><table></form><form>", "form(form table)", "unexpected-end-tag@13 unexpected-start-tag@20 unclosed-elements@26"},
		{"<form><table><form>", "form(table)", "unexpected-start-tag@13 unclosed-elements@19"},
		{"<p><b></p><form>x", `p(b) form(b("x"))`, "unexpected-end-tag@6 unclosed-elements@17"},
		{"<form/>", `form`, "non-void-element-with-trailing-solidus@0 unclosed-elements@7"},
		{"<form><p><span></form>", `form(p(span))`, "unexpected-end-tag@15 unclosed-elements@22"},
	})
}

// P11.4: li, dd, dt.
func TestOpenItem(t *testing.T) {
	checkBodies(t, []row{
		{"<li>a<li>b", `li("a") li("b")`, ""},
		{"<ul><li>a<ul><li>b</ul><li>c</ul>", `ul(li("a" ul(li("b"))) li("c"))`, ""},
		{"<ul><li><p>a<li>b</ul>", `ul(li(p("a")) li("b"))`, ""},
		{"<ul><li><b>a<li>c</ul>", `ul(li(b("a")) li(b("c")))`, "unexpected-start-tag@12 unexpected-end-tag@17"},
		{"<li><div><li>", `li(div) li`, "unexpected-start-tag@9"},
		{"<li><address><p><li>", `li(address(p)) li`, "unexpected-start-tag@16"},
		{"<li><section><li>", `li(section(li))`, "unclosed-elements@17"},
		{"<li><button><li>", `li(button(li))`, "unclosed-elements@16"},
		{"<li><span><li>", `li(span) li`, "unexpected-start-tag@10"},
		{"<li><option><li>", `li(option) li`, ""},
		{"<li><dd><li>", `li(dd(li))`, ""},
		{"<p><li>a", `p li("a")`, ""},
		{"<dl><dt>a<dd>b<dd>c<dt>d</dl>", `dl(dt("a") dd("b") dd("c") dt("d"))`, ""},
		{"<dd><div><dt>", `dd(div) dt`, "unexpected-start-tag@9"},
		{"<dt><p><address><dd>", `dt(p address) dd`, "unexpected-start-tag@16"},
		{"<dd><li><dt>", `dd(li(dt))`, ""},
		{"<dt><ul><dd>", `dt(ul(dd))`, "unclosed-elements@12"},
		{"<p><dd>a<dt>b", `p dd("a") dt("b")`, ""},
		{"<dt><dl><dd><p><dt>", `dt(dl(dd(p) dt))`, "unclosed-elements@19"},
		{"<p><b></p><li>x", `p(b) li(b("x"))`, "unexpected-end-tag@6 unclosed-elements@15"},
		{"<dd/><li/>", `dd(li)`, "non-void-element-with-trailing-solidus@0 non-void-element-with-trailing-solidus@5"},
	})
}

// P11.4: button.
func TestButton(t *testing.T) {
	checkBodies(t, []row{
		{"<button>a<button>b</button>c", `button("a") button("b") "c"`, "unexpected-start-tag@9"},
		{"<button><p>a<button>b</button>", `button(p("a")) button("b")`, "unexpected-start-tag@12"},
		{"<button><div><button>", `button(div) button`, "unexpected-start-tag@13 unclosed-elements@21"},
		{"<button><object><button>", `button(object(button))`, "unclosed-elements@24"},
		{"<p><button>", `p(button)`, "unclosed-elements@11"},
		{"<p><b></p><button></button>", `p(b) b(button)`, "unexpected-end-tag@6 unclosed-elements@27"},
		{"<button><p>a</button>b", `button(p("a")) "b"`, ""},
		{"</button>x", `"x"`, "unexpected-end-tag@0"},
		{"<button><b></button>x", `button(b) b("x")`, "unexpected-end-tag@11 unclosed-elements@21"},
		{"<button><object></button>", `button(object)`, "unexpected-end-tag@16 unclosed-elements@25"},
	})
}

// P11.4: formatting.
func TestOpenFormatting(t *testing.T) {
	each(t, formatting+" a", func(n string) row {
		return row{"<p><" + n + " k=1></p>x", fmt.Sprintf(`p(%s[k="1"]) %s[k="1"]("x")`, n, n),
			fmt.Sprintf("unexpected-end-tag@%d unclosed-elements@%d", len(n)+9, len(n)+14)}
	})
	each(t, "span nobr label q cite", func(n string) row {
		return row{"<p><" + n + "></p>x", "p(" + n + `) "x"`, fmt.Sprintf("unexpected-end-tag@%d", len(n)+5)}
	})
	checkBodies(t, []row{
		{"<p><b><i></p><u>x", `p(b(i)) b(i(u("x")))`, "unexpected-end-tag@9 unclosed-elements@17"},
		{"<p><b><b><b><b></p>x", `p(b(b(b(b)))) b(b(b("x")))`, "unexpected-end-tag@15 unclosed-elements@20"},
		{"<p><b><b><b k><b></p>x", `p(b(b(b[k=""](b)))) b(b(b[k=""](b("x"))))`, "unexpected-end-tag@17 unclosed-elements@22"},
		{"<b/>x", `b("x")`, "non-void-element-with-trailing-solidus@0 unclosed-elements@5"},
		{"<b><p></b/>x", `b p(b "x")`, "end-tag-with-trailing-solidus@6 misnested-formatting@6"},
	})
}

// P11.4: a.
func TestOpenLink(t *testing.T) {
	checkBodies(t, []row{
		{"<a>x<a k>y", `a("x") a[k=""]("y")`, "unexpected-start-tag@4 unclosed-elements@10"},
		{"<a>x</a><a>y</a>", `a("x") a("y")`, ""},
		{"<a><b>x<a>y", `a(b("x")) b(a("y"))`, "unexpected-start-tag@7 misnested-formatting@7 unclosed-elements@11"},
		{"<a><div>x<a>y", `a div(a("x") a("y"))`, "unexpected-start-tag@9 misnested-formatting@9 unclosed-elements@13"},
		{"<p><a></p><a>x", `p(a) a("x")`, "unexpected-end-tag@6 unexpected-start-tag@10 misnested-formatting@10 unclosed-elements@14"},
		{"<a><object><a>x", `a(object(a("x")))`, "unclosed-elements@15"},
		{"<a><table><a>x", `a(a("x") table)`, "unexpected-start-tag@10 misnested-formatting@10 unexpected-text-in-table@13 unclosed-elements@14"},
	})
}

// P11.4: what holds formatting of its own.
func TestObjects(t *testing.T) {
	each(t, objects, func(n string) row {
		at := len(n) + 11
		return row{"<b><p><" + n + "></b>x<i></" + n + ">y", "b(p(" + n + `("x" i) "y"))`,
			fmt.Sprintf("unexpected-end-tag@%d unexpected-end-tag@%d unclosed-elements@%d", at-3, at+5, at+9+len(n))}
	}) // </b> is a usual end there: the b is ahead of the marker
	checkBodies(t, []row{
		{"<p><b></p><object>x</object>y", `p(b) b(object("x") "y")`, "unexpected-end-tag@6 unclosed-elements@29"},
		{"<p><object><p>x</object>y", `p(object(p("x")) "y")`, ""},
		{"</object><b>x", `b("x")`, "unexpected-end-tag@0 unclosed-elements@13"},
		{"<p><b><i></p></object>x", `p(b(i)) b(i("x"))`, "unexpected-end-tag@9 unexpected-end-tag@13 unclosed-elements@23"},
		{"<applet><object></applet>x</object>y</applet>z", `applet(object("x") "y") "z"`, "unexpected-end-tag@16"},
		{"<object><p><b></object>x", `object(p(b)) "x"`, "unexpected-end-tag@14"},
		{"<div><b><object><p><i></p><object></object></object></div>x", `div(b(object(p(i) i(object)))) b("x")`, "unexpected-end-tag@22 unexpected-end-tag@43 unexpected-end-tag@52 unclosed-elements@59"},
		{"<object/>", "object", "non-void-element-with-trailing-solidus@0 unclosed-elements@9"},
	})
}

// P11.4: table.
func TestOpenTable(t *testing.T) {
	checkBodies(t, []row{
		{"<p>a<table></table>b", `p("a") table "b"`, ""},
		{"<p><b><table></table>c", `p(b) table b("c")`, "unexpected-start-tag@6 unclosed-elements@22"},
		{"<p><button><table></table></button>", `p(button(table))`, ""},
		{"<table/></table>", `table`, "non-void-element-with-trailing-solidus@0"},
	})
	checkDocuments(t, []row{
		{"<p>a<table></table>b", `html(head body(p("a" table "b")))`, "missing-doctype@0"},
	})
}

// P11.4: void ones.
func TestOpenVoid(t *testing.T) {
	each(t, "area br embed img input keygen wbr", func(n string) row {
		return row{"<p><b></p><" + n + " k=1>x", fmt.Sprintf(`p(b) b(%s[k="1"] "x")`, n), fmt.Sprintf("unexpected-end-tag@6 unclosed-elements@%d", len(n)+17)}
	})
	each(t, "param source track base link meta", func(n string) row {
		return row{"<p><b></p><" + n + "/>x", fmt.Sprintf(`p(b) %s b("x")`, n), fmt.Sprintf("unexpected-end-tag@6 unclosed-elements@%d", len(n)+14)}
	})
	each(t, voids, func(n string) row {
		switch n {
		case "col":
			return row{"<table><col/></table>", "table(col)", ""}
		case "hr":
			return row{"<p><hr/></div>", "p hr", "unexpected-end-tag@8"}
		}
		return row{"<p><" + n + "/></div>", "p(" + n + ")", fmt.Sprintf("unexpected-end-tag@%d", len(n)+6)}
	})
}

// P11.4: textarea, xmp, option, optgroup, and any other.
func TestOpenOther(t *testing.T) {
	checkBodies(t, []row{
		{"<p><b></p><textarea>x</textarea>y", `p(b) textarea("x") b("y")`, "unexpected-end-tag@6 unclosed-elements@33"},
		{"<p><textarea/>x</textarea>y", `p(textarea("x") "y")`, "non-void-element-with-trailing-solidus@3"},
		{"<p><b></p><p><xmp>x<p></xmp>y", `p(b) p b(xmp("x<p>") "y")`, "unexpected-end-tag@6 unclosed-elements@29"},
		{"<p><b><xmp>x</xmp>", `p(b) b(xmp("x"))`, "unexpected-start-tag@6 unclosed-elements@18"},
		{"<option>a<option>b<optgroup>c<option>d", `option("a") option("b") optgroup("c" option("d"))`, ""},
		{"<optgroup><optgroup>", `optgroup(optgroup)`, ""},
		{"<option><b>x<option>y", `option(b("x" option("y")))`, "unclosed-elements@21"},
		{"<p><b></p><option>x", `p(b) b(option("x"))`, "unexpected-end-tag@6 unclosed-elements@19"},
		{"<p><b></p><select>x</select>", `p(b) b(select("x"))`, "unexpected-end-tag@6 unclosed-elements@28"},
		{"<p><b></p><span/>x", `p(b) b(span("x"))`, "unexpected-end-tag@6 non-void-element-with-trailing-solidus@10 unclosed-elements@18"},
		{"<p><x-y k=1>z</x-y>", `p(x-y[k="1"]("z"))`, ""},
		{"<frameset><frame>", `frameset(frame)`, "unclosed-elements@17"},
	})
}

// P11.4: end tags of body and html.
func TestCloseBody(t *testing.T) {
	for _, n := range []string{"body", "html"} {
		checkDocuments(t, []row{
			{doctype + "<p></" + n + "><!--a-->", `!html html(head body(p) {a})`, ""},
			{doctype + "<ul><li></" + n + "><!--a-->", `!html html(head body(ul(li)) {a})`, "unclosed-elements@23"},
			{doctype + "<b></" + n + "><!--a-->", `!html html(head body(b) {a})`, "unclosed-elements@18"},
			{doctype + "<object></" + n + "><!--a-->", `!html html(head body(object({a})))`, "unexpected-end-tag@23 unclosed-elements@38"},
			{doctype + "<button></" + n + "><!--a-->", `!html html(head body(button) {a})`, "unclosed-elements@23"},
		})
	}
}

// P11.4: end tags of blocks.
func TestCloseBlock(t *testing.T) {
	for _, n := range append(strings.Fields(blocks), "button") {
		if n == "p" {
			continue
		}
		end := len(n) + 2
		checkBodies(t, []row{
			{"<" + n + ">x</" + n + ">y", n + `("x") "y"`, ""},
			{"</" + n + ">x", `"x"`, "unexpected-end-tag@0"},
			{"<" + n + "><p>x</" + n + ">y", n + `(p("x")) "y"`, ""},
			{"<" + n + "><span>x</" + n + ">y", n + `(span("x")) "y"`, fmt.Sprintf("unexpected-end-tag@%d", end+7)},
			{"<" + n + "><object>x</" + n + ">y</object></" + n + ">", n + `(object("xy"))`, fmt.Sprintf("unexpected-end-tag@%d", end+9)},
		})
	}
	checkBodies(t, []row{
		{"<div><li>x</div>y", `div(li("x")) "y"`, ""},
		{"<div><section></div>y", `div(section) "y"`, "unexpected-end-tag@14"},
		{"<ul><li><ol></ul>y", `ul(li(ol)) "y"`, "unexpected-end-tag@12"},
		{"<div></section></div>y", `div "y"`, "unexpected-end-tag@5"},
	})
}

// P11.4: end tags of p.
func TestCloseP(t *testing.T) {
	checkBodies(t, []row{
		{"<p>x</p>y", `p("x") "y"`, ""},
		{"<div></p>x</div>", `div(p "x")`, "unexpected-end-tag@5"},
		{"<p><button></p>x</button>", `p(button(p "x"))`, "unexpected-end-tag@11"},
		{"<p><span>x</p>y", `p(span("x")) "y"`, "unexpected-end-tag@10"},
		{"<p><option>x</p>y", `p(option("x")) "y"`, ""},
		{"<p><b></p></p>x", `p(b) p b("x")`, "unexpected-end-tag@6 unexpected-end-tag@10 unclosed-elements@15"},
		{"<p><object></p></object>x", `p(object(p) "x")`, "unexpected-end-tag@11"},
	})
}

// P11.4: end tags of li, dd, dt.
func TestCloseItem(t *testing.T) {
	checkBodies(t, []row{
		{"<ul><li>x</li>y</ul>", `ul(li("x") "y")`, ""},
		{"<ul><li><p>x</li>y</ul>", `ul(li(p("x")) "y")`, ""},
		{"<ul><li><span>x</li>y</ul>", `ul(li(span("x")) "y")`, "unexpected-end-tag@15"},
		{"<li><ul></li></ul>", `li(ul)`, "unexpected-end-tag@8"},
		{"<li><ol></li></ol>", `li(ol)`, "unexpected-end-tag@8"},
		{"<li><div></li>x", `li(div) "x"`, "unexpected-end-tag@9"},
		{"<li><object></li></object>", `li(object)`, "unexpected-end-tag@12"},
		{"</li></dd></dt>x", `"x"`, "unexpected-end-tag@0 unexpected-end-tag@5 unexpected-end-tag@10"},
		{"<li><section><li></section></li>x", `li(section(li)) "x"`, ""},
		{"<dl><dd>x</dd><dt>y</dt>z</dl>", `dl(dd("x") dt("y") "z")`, ""},
		{"<dd><ul></dd>x", `dd(ul) "x"`, "unexpected-end-tag@8"},
		{"<dd><p>x</dt>y</dd>z", `dd(p("xy")) "z"`, "unexpected-end-tag@8"},
		{"<dt><p>x</dt>z", `dt(p("x")) "z"`, ""},
		{"<dt><ul><dd></ul></dt>z", `dt(ul(dd)) "z"`, ""},
		{"<dd><li></dd>z", `dd(li) "z"`, ""},
	})
}

// P11.4: end tags of headings.
func TestCloseHeading(t *testing.T) {
	each(t, headings, func(n string) row {
		return row{"</" + n + "><h4>x</" + n + ">y", `h4("x") "y"`, strings.TrimSuffix("unexpected-end-tag@0 unexpected-end-tag@10", map[bool]string{true: " unexpected-end-tag@10"}[n == "h4"])}
	})
	checkBodies(t, []row{
		{"<h1>x</h2>y<h2>x</h3>y<h3>x</h4>y", `h1("x") "y" h2("x") "y" h3("x") "y"`, "unexpected-end-tag@5 unexpected-end-tag@16 unexpected-end-tag@27"},
		{"<h4>x</h5>y<h5>x</h6>y<h6>x</h1>y", `h4("x") "y" h5("x") "y" h6("x") "y"`, "unexpected-end-tag@5 unexpected-end-tag@16 unexpected-end-tag@27"},
		{"<h1><p>x</h1>y", `h1(p("x")) "y"`, ""},
		{"<h1><span>x</h1>y", `h1(span("x")) "y"`, "unexpected-end-tag@11"},
		{"<h1><div><h2>x</h1>y</div>z", `h1(div(h2("x") "y") "z")`, "unexpected-end-tag@14 unclosed-elements@27"},
		{"<h1><object></h1>y</object></h1>z", `h1(object("y")) "z"`, "unexpected-end-tag@12"},
		{"<h1><div><b>x</h2>y", `h1(div(b("x"))) b("y")`, "unexpected-end-tag@13 unclosed-elements@19"},
	})
}

// P11.4: end tags of br and of any other.
func TestCloseOther(t *testing.T) {
	checkBodies(t, []row{
		{"x</br k=1>y", `"x" br "y"`, "end-tag-with-attributes@1 unexpected-end-tag@1"},
		{"<p><b></p></br>", `p(b) b(br)`, "unexpected-end-tag@6 unexpected-end-tag@10 unclosed-elements@15"},
		{"<span>x</span>y", `span("x") "y"`, ""},
		{"<span><p>x</span>y", `span(p("xy"))`, "unexpected-end-tag@10 unclosed-elements@18"},
		{"<span><option>x</span>y", `span(option("x")) "y"`, ""},
		{"<span><label>x</span>y", `span(label("x")) "y"`, "unexpected-end-tag@14"},
		{"<span><b>x</span>y", `span(b("x")) b("y")`, "unexpected-end-tag@10 unclosed-elements@18"},
		{"<p></span>x", `p("x")`, "unexpected-end-tag@3"},
		{"<option>x</option>y", `option("x") "y"`, ""},
		{"<optgroup><option>x</optgroup>y", `optgroup(option("x")) "y"`, ""},
		{"<rt><rt>x</rt>y", `rt(rt("x") "y")`, "unclosed-elements@15"},
		{"<span><span>x</span>y", `span(span("x") "y")`, "unclosed-elements@21"},
		{"<select>x</select>y", `select("x") "y"`, ""},
		{"<select><p></select>y", `select(p("y"))`, "unexpected-end-tag@11 unclosed-elements@21"},
		{"x</head></td></title></hr></plaintext></x></table></option>y", `"xy"`, "unexpected-end-tag@1 unexpected-end-tag@8 unexpected-end-tag@13 unexpected-end-tag@21 unexpected-end-tag@26 unexpected-end-tag@38 unexpected-end-tag@42 unexpected-end-tag@50"},
	})
	b := fed(open("p", 0))
	b.Token(lexer.Token{Kind: lexer.Close, Name: "br", Self: true, Attrs: []api.Attr{{Name: "k"}}, At: 5})
	if shape(b.Tree()) != "html(head body(p(br)))" || told(b.Wrong()) != "missing-doctype@0 unexpected-end-tag@5" {
		t.Errorf("%s", shape(b.Tree()))
	}
}

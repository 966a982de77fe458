package tree_test

import (
	"fmt"
	"strings"
	"testing"
)

// P11.6: InTable, but tags.
func TestInTable(t *testing.T) {
	checkBodies(t, []row{
		{"<table> \t\n\f</table>", `table(" \t\n\f")`, ""},
		{"<table>x y</table>", `"xy" table(" ")`, "unexpected-text-in-table@7 unexpected-text-in-table@9"},
		{"<table>\r</table>", `"\r" table`, "unexpected-text-in-table@7"},
		{"<table>\x00</table>", `table`, "unexpected-null-character@7 unexpected-text-in-table@7"},
		{"<p><b></p><table>\x00</table>", `p(b) table`, "unexpected-end-tag@6 unexpected-null-character@17 unexpected-text-in-table@17"},
		{"<p><b></p><table> x</table>", `p(b) b("x") table(" ")`, "unexpected-end-tag@6 unexpected-text-in-table@18"},
		{"<table><!--a--></table>", `table({a})`, ""},
		{"<table>" + doctype + "</table>", `table`, "unexpected-doctype@7"},
		{"<table>", `table`, "unclosed-elements@7"},
		{"<div>a<table>x</table></div>", `div("ax" table)`, "unexpected-text-in-table@13"},
	})
}

// P11.6: InTable, parts of tables.
func TestPartsInTable(t *testing.T) {
	checkBodies(t, []row{
		{"<table><caption>x</caption> </table>", `table(caption("x") " ")`, ""},
		{"<table><span><caption k=1></table>", `span table(caption[k="1"])`, "unexpected-start-tag@7"},
		{"<b><table><caption></b>x", `b(table(caption("x")))`, "unexpected-end-tag@19 unclosed-elements@24"},
		{"<table><span><col k=1 /><colgroup k=2><col> </table>", `span table(col[k="1"] colgroup[k="2"] col " ")`, "unexpected-start-tag@7"},
		{"<table><colgroup/></table>", `table(colgroup)`, "non-void-element-with-trailing-solidus@7"},
		{"<table><colgroup> </table>", `table(colgroup " ")`, ""},
		{"<table><colgroup>x</table>", `"x" table(colgroup)`, "unexpected-text-in-table@17"},
		{"<table><tr></table>", `table(tbody(tr))`, ""},
		{"<table><span><tr k=1></table>", `span table(tbody(tr[k="1"]))`, "unexpected-start-tag@7"},
		{"<table><td k=1 /></table>", `table(tbody(tr(td[k="1"])))`, "unexpected-start-tag@7 non-void-element-with-trailing-solidus@7"},
		{"<table><th></table>", `table(tbody(tr(th)))`, "unexpected-start-tag@7"},
		{"<table><table>x", `table "x" table`, "unexpected-start-tag@7 unexpected-text-in-table@14 unclosed-elements@15"},
		{"<table></table>x", `table "x"`, ""},
		{"<table><p></table>x", `p table "x"`, "unexpected-start-tag@7"},
	})
	each(t, "tbody tfoot thead", func(n string) row {
		return row{"<table><span><" + n + " k=1> </table>", "span table(" + n + `[k="1"](" "))`, "unexpected-start-tag@7"}
	})
	each(t, "body html "+cellMarks, func(n string) row {
		return row{"<table></" + n + "> </table>", `table(" ")`, "unexpected-end-tag@7"}
	})
}

// P11.6: a template hides the table.
func TestTemplateInTable(t *testing.T) {
	checkBodies(t, []row{
		{"<table><template></table>", `template table`, "unexpected-start-tag@7 unexpected-end-tag@17 unclosed-elements@25"},
		{"<table><template><table>", `template table`, "unexpected-start-tag@7 unexpected-start-tag@17 unclosed-elements@24"},
		{"<table><template><tr></table>", `template table(tbody(tr))`, "unexpected-start-tag@7"},
		{"<table><tbody><template><col></table></tbody>", `template table(tbody)`, "unexpected-start-tag@14 unexpected-start-tag@24 unexpected-end-tag@29 unexpected-end-tag@37 unclosed-elements@45"},
		{"<table><tbody><template><td></table>", `template table(tbody(tr(td)))`, "unexpected-start-tag@14 unexpected-start-tag@24"},
		{"<table><tr><template></tr><tr></tbody></table>", `template table(tbody(tr))`, "unexpected-start-tag@11 unexpected-end-tag@21 unexpected-start-tag@26 unexpected-end-tag@30 unexpected-end-tag@38 unclosed-elements@46"},
		{"<table><tr><td><template><tr></table>", `table(tbody(tr(td(template)) tr))`, "unexpected-start-tag@25"},
		{"<table><tr><template></table></tr>", `template table(tbody(tr))`, "unexpected-start-tag@11 unexpected-end-tag@21 unexpected-end-tag@29 unclosed-elements@34"},
		{"<table><tr><td><template></td></tr></table><td>x", `table(tbody(tr(td(template) td("x"))))`, "unexpected-end-tag@25 unexpected-end-tag@30 unexpected-end-tag@35 unexpected-start-tag@43 unclosed-elements@48"},
		{"<table><caption><template></caption></table><tr>", `table(caption(template))`, "unexpected-end-tag@26 unexpected-end-tag@36 unexpected-start-tag@44 unclosed-elements@48"},
	})
}

// P11.6: a template hides the section and the row.
func TestTemplateInSection(t *testing.T) {
	for _, n := range strings.Fields("caption col colgroup tbody tfoot thead") {
		checkBodies(t, []row{
			{"<table><thead><template><" + n + "/></thead><tr>", `template table(thead(tr))`,
				fmt.Sprintf("unexpected-start-tag@14 unexpected-start-tag@24 unexpected-end-tag@%d unclosed-elements@%d", len(n)+27, len(n)+39)},
			{"<table><tr><template><" + n + "/><td>", `template table(tbody(tr(td)))`,
				fmt.Sprintf("unexpected-start-tag@11 unexpected-start-tag@21 unclosed-elements@%d", len(n)+28)},
		})
	}
}

// P11.6: what isn't of a table.
func TestFostered(t *testing.T) {
	checkBodies(t, []row{
		{"<table><style>a</style><script>b</script> </table>", `table(style("a") script("b") " ")`, ""},
		{"<table><title>a</title><meta></table>", `title("a") meta table`, "unexpected-start-tag@7 unexpected-start-tag@23"},
		{"<table><p>x</p></table>", `p("x") table`, "unexpected-start-tag@7 unexpected-text-in-table@10 unexpected-end-tag@11"},
		{"<table></p></table>", `p table`, "unexpected-end-tag@7"},
		{"<table></br><br></table>", `br br table`, "unexpected-end-tag@7 unexpected-start-tag@12"},
		{"<table><b>x</table>y", `b("x") table b("y")`, "unexpected-start-tag@7 unexpected-text-in-table@10 unclosed-elements@20"},
		{"<table><textarea>\nx</textarea> </table>", `textarea("x") table(" ")`, "unexpected-start-tag@7"},
		{"<table><div> <i> </table>", `div(" " i(" ")) table`, "unexpected-start-tag@7 unexpected-start-tag@13"},
		{"<table><div><!--a--><tr><!--b--></table>", `div({a}) table(tbody(tr({b})))`, "unexpected-start-tag@7"},
		{"<table><div><style>a</style></table>", `div(style("a")) table`, "unexpected-start-tag@7"},
		{"<table><form><input></form></table>", `form(input) table`, "unexpected-start-tag@7 unexpected-start-tag@13 unexpected-end-tag@20"},
		{"<table><head></table>", `table`, "unexpected-start-tag@7"},
		{"<p><b></p><table><i>x</table>", `p(b) b(i("x")) table`, "unexpected-end-tag@6 unexpected-start-tag@17 unexpected-text-in-table@20"},
		{"<table><span></x></table>", `span table`, "unexpected-start-tag@7 unexpected-end-tag@13"},
	})
	checkDocuments(t, []row{
		{doctype + "<table><html k=1><body l=2></table>", `!html html[k="1"](head body[l="2"](table))`, "unexpected-start-tag@22 unexpected-start-tag@32"},
	})
	// It is fostered from each part of the table.
	each(t, "tbody tfoot thead", func(n string) row {
		return row{"<table><" + n + ">x<p>y</table>", `"x" p("y") table(` + n + ")",
			fmt.Sprintf("unexpected-text-in-table@%d unexpected-start-tag@%d unexpected-text-in-table@%d", len(n)+9, len(n)+10, len(n)+13)}
	})
	checkBodies(t, []row{
		{"<table><tr>x<p>y</table>", `"x" p("y") table(tbody(tr))`, "unexpected-text-in-table@11 unexpected-start-tag@12 unexpected-text-in-table@15"},
		{"<table><tr><td>a<table><tr>x", `table(tbody(tr(td("ax" table(tbody(tr))))))`, "unexpected-text-in-table@27 unclosed-elements@28"},
	})
}

// Words: a table that was taken from the tree stands nowhere; what it fosters stands under the one ahead of it.
func TestFosteredByATableThatStandsNowhere(t *testing.T) {
	list := tokens(doctype + "<div>a<p>b</p><table>")
	b := fed(list[:len(list)-1]...)
	b.Tree().Take(b.Tree().Len() - 1)
	b.Token(text('x', 50))
	b.Token(open("i", 51))
	b.Token(text('y', 52))
	if got := underBody(shape(b.Tree())); got != `div("a" p("b") "x" i("y"))` {
		t.Errorf("%s", got)
	}
}

// P11.6: what stands behind a table.
func TestReset(t *testing.T) {
	checkBodies(t, []row{
		{"<div><table></table>x</div>", `div(table "x")`, ""},
		{"<table><tr><td><table></table>x</table>", `table(tbody(tr(td(table "x"))))`, ""},
		{"<table><tr><th><div><table></table>x</div></th> </table>", `table(tbody(tr(th(div(table "x")) " ")))`, ""},
		{"<table><caption><table></table>x</caption> </table>", `table(caption(table "x") " ")`, ""},
		{"<table><tr><td><table><table>x</table></table>y", `table(tbody(tr(td(table "x" table)))) "y"`, "unexpected-start-tag@22 unexpected-text-in-table@29"},
	})
}

// P11.6: InTableBody.
func TestInTableBody(t *testing.T) {
	for _, n := range []string{"tbody", "tfoot", "thead"} {
		in := "<table><" + n + ">"
		at := len(in)
		checkBodies(t, []row{
			{in + " <tr k=1></table>", "table(" + n + `(" " tr[k="1"]))`, ""},
			{in + "<span><tr></table>", "span table(" + n + "(tr))", fmt.Sprintf("unexpected-start-tag@%d", at)},
			{in + "<span><td k=1></table>", "span table(" + n + `(tr(td[k="1"])))`, fmt.Sprintf("unexpected-start-tag@%d unexpected-start-tag@%d", at, at+6)},
			{in + "<th></table>", "table(" + n + `(tr(th)))`, fmt.Sprintf("unexpected-start-tag@%d", at)},
			{in + "<span></" + n + "> </table>", "span table(" + n + ` " ")`, fmt.Sprintf("unexpected-start-tag@%d", at)},
			{in + "<!--a-->" + doctype + "</table>", "table(" + n + "({a}))", fmt.Sprintf("unexpected-doctype@%d", at+8)},
			{in + "<table></table>", "table(" + n + ") table", fmt.Sprintf("unexpected-start-tag@%d", at)},
			{in + "<style></style></table>", "table(" + n + "(style))", ""},
			{in, "table(" + n + ")", fmt.Sprintf("unclosed-elements@%d", at)},
		})
		for _, other := range strings.Fields("caption col colgroup tbody tfoot thead") {
			checkBodies(t, []row{{in + "<span><" + other + " k=1></table>", "span table(" + n + " " + other + `[k="1"])`, fmt.Sprintf("unexpected-start-tag@%d", at)}})
		}
		for _, other := range strings.Fields("body caption col colgroup html td th tr tbody tfoot thead") {
			if other != n {
				checkBodies(t, []row{{in + "</" + other + "> </table>", "table(" + n + `(" "))`, fmt.Sprintf("unexpected-end-tag@%d", at)}})
			}
		}
	}
}

// P11.6: InRow.
func TestInRow(t *testing.T) {
	const in, at = "<table><tr>", 11
	checkBodies(t, []row{
		{in + "<th k=1>a<td>b</table>", `table(tbody(tr(th[k="1"]("a") td("b"))))`, ""},
		{in + "<span><td></table>", `span table(tbody(tr(td)))`, "unexpected-start-tag@11"},
		{"<b>" + in + "<td></b>x", `b(table(tbody(tr(td("x")))))`, "unexpected-end-tag@18 unclosed-elements@23"},
		{in + "<span></tr> </table>", `span table(tbody(tr " "))`, "unexpected-start-tag@11"},
		{in + "<span></tbody> </table>", `span table(tbody(tr) " ")`, "unexpected-start-tag@11"},
		{in + "</tfoot></thead> </table>", `table(tbody(tr(" ")))`, "unexpected-end-tag@11 unexpected-end-tag@19"},
		{"<table><tfoot><tr></tfoot> </table>", `table(tfoot(tr) " ")`, ""},
		{in + "<table></table>", `table(tbody(tr)) table`, "unexpected-start-tag@11"},
		{in + "<!--a-->" + doctype + " </table>", `table(tbody(tr({a} " ")))`, "unexpected-doctype@19"},
		{in + "<script>a</script></table>", `table(tbody(tr(script("a"))))`, ""},
		{in, `table(tbody(tr))`, "unclosed-elements@11"},
	})
	each(t, "caption col colgroup tbody tfoot thead", func(n string) row {
		return row{in + "<span><" + n + " k=1></table>", "span table(tbody(tr) " + n + `[k="1"])`, "unexpected-start-tag@11"}
	})
	checkBodies(t, []row{{in + "<tr k=1></table>", `table(tbody(tr tr[k="1"]))`, ""}})
	each(t, "body caption col colgroup html td th", func(n string) row {
		return row{in + "</" + n + "> </table>", `table(tbody(tr(" ")))`, fmt.Sprintf("unexpected-end-tag@%d", at)}
	})
}

// P11.6: InCell.
func TestInCell(t *testing.T) {
	const in = "<table><tr><td>" // 15 bytes
	checkBodies(t, []row{
		{in + "<p>x</td> </table>", `table(tbody(tr(td(p("x")) " ")))`, ""},
		{in + "<span>x</td> </table>", `table(tbody(tr(td(span("x")) " ")))`, "unexpected-end-tag@22"},
		{"<table><tr><th>x</th> </table>", `table(tbody(tr(th("x") " ")))`, ""},
		{in + "x</th>y</table>", `table(tbody(tr(td("xy"))))`, "unexpected-end-tag@16"},
		{in + "<b>x</td><td>y</table>z", `table(tbody(tr(td(b("x")) td("y")))) "z"`, "unexpected-end-tag@19"},
		{"<p><b></p>" + in + "x</td></table>y", `p(b) table(tbody(tr(td("x")))) b("y")`, "unexpected-end-tag@6 unclosed-elements@40"},
		{"<p><b></p>" + in + "x<td>y</table>z", `p(b) table(tbody(tr(td("x") td("y")))) b("z")`, "unexpected-end-tag@6 unclosed-elements@40"},
		{in + "<span>x<td>y</table>", `table(tbody(tr(td(span("x")) td("y"))))`, "unexpected-start-tag@22"},
		{in + "<p>x<th>y</table>", `table(tbody(tr(td(p("x")) th("y"))))`, ""},
		{"<table><tr><th>x<td>y</table>", `table(tbody(tr(th("x") td("y"))))`, ""},
		{in + "x</tr> </table>", `table(tbody(tr(td("x")) " "))`, ""},
		{in + "x</tbody> </table>", `table(tbody(tr(td("x"))) " ")`, ""},
		{in + "<span>x</table>y", `table(tbody(tr(td(span("x"))))) "y"`, "unexpected-end-tag@22"},
		{in + "</tfoot></thead>x</table>", `table(tbody(tr(td("x"))))`, "unexpected-end-tag@15 unexpected-end-tag@23"},
		{"<table><thead><tr><td>x</thead> </table>", `table(thead(tr(td("x"))) " ")`, ""},
		{"<table><tfoot><tr><td>x</tfoot> </table>", `table(tfoot(tr(td("x"))) " ")`, ""},
		{in + "<table><tr></table>x</table>", `table(tbody(tr(td(table(tbody(tr)) "x"))))`, ""},
		{in + "<p>a<div>b</div><!--c-->" + doctype + "</table>", `table(tbody(tr(td(p("a") div("b") {c}))))`, "unexpected-doctype@39"},
		{in + "<object>x</td>y</table>", `"y" table(tbody(tr(td(object("x")))))`, "unexpected-end-tag@24 unexpected-text-in-table@29"},
	})
	each(t, "caption col colgroup tbody tfoot thead", func(n string) row {
		return row{in + "x<" + n + " k=1></table>", `table(tbody(tr(td("x"))) ` + n + `[k="1"])`, ""}
	})
	checkBodies(t, []row{{in + "x<tr k=1></table>", `table(tbody(tr(td("x")) tr[k="1"]))`, ""}})
	each(t, "body caption col colgroup html", func(n string) row {
		return row{in + "</" + n + ">x</table>", `table(tbody(tr(td("x"))))`, "unexpected-end-tag@15"}
	})
	// A marker that an object leaves behind, closed with its cell, is there still.
	checkBodies(t, []row{
		{"<b>" + in + "<object></td></table>x</b>y", `b(table(tbody(tr(td(object)))) "x") "y"`, "unexpected-end-tag@26"},
		{"<p><b></p>" + in + "<object></td></table>x", `p(b) table(tbody(tr(td(object)))) "x"`, "unexpected-end-tag@6 unexpected-end-tag@33"},
		// The b that is open is marked, ahead of the marker: it isn't popped at once, but the other b is looked for.
		{"<b>" + in + "<object></td></table><p><b></p></b>x</b>y", `b(table(tbody(tr(td(object)))) p(b) "x") "y"`,
			"unexpected-end-tag@26 unexpected-end-tag@45 misnested-formatting@49"},
	})
}

// P11.6: InCaption.
func TestInCaption(t *testing.T) {
	const in = "<table><caption>" // 16 bytes
	checkBodies(t, []row{
		{in + "<p>x</caption> </table>", `table(caption(p("x")) " ")`, ""},
		{in + "<span>x</caption> </table>", `table(caption(span("x")) " ")`, "unexpected-end-tag@23"},
		{in + "<span>x</table>y", `table(caption(span("x"))) "y"`, "unexpected-end-tag@23"},
		{in + "x<caption>y</table>", `table(caption("x") caption("y"))`, ""},
		{in + "<b>x<tr></table>y", `table(caption(b("x")) tbody(tr)) "y"`, "unexpected-start-tag@20"},
		{in + "x<td>y</table>", `table(caption("x") tbody(tr(td("y"))))`, "unexpected-start-tag@17"},
		{in + "x<th>y</table>", `table(caption("x") tbody(tr(th("y"))))`, "unexpected-start-tag@17"},
		{in + "x<tr></table>", `table(caption("x") tbody(tr))`, ""},
		{in + "<b>x</caption>y</table>z", `"y" table(caption(b("x"))) "z"`, "unexpected-end-tag@20 unexpected-text-in-table@30"},
		{"<p><b></p>" + in + "x</caption></table>y", `p(b) table(caption("x")) b("y")`, "unexpected-end-tag@6 unclosed-elements@46"},
		{in + "<div>x\x00y</div></table>", `table(caption(div("xy")))`, "unexpected-null-character@22"},
		{in, `table(caption)`, "unclosed-elements@16"},
	})
	each(t, "col colgroup tbody tfoot thead", func(n string) row {
		return row{in + "x<" + n + " k=1></table>", `table(caption("x") ` + n + `[k="1"])`, ""}
	})
	each(t, "body html col colgroup tbody td tfoot th thead tr", func(n string) row {
		return row{in + "</" + n + ">x</table>", `table(caption("x"))`, "unexpected-end-tag@16"}
	})
}

package tree_test

import "testing"

// P11.7
func TestAfterBody(t *testing.T) {
	checkDocuments(t, []row{
		{doctype + "<p>x</body> \n<!--a--> ", `!html html(head body(p("x \n ")) {a})`, ""},
		{doctype + "<p>x</body><!--a--><!--b-->", `!html html(head body(p("x")) {a} {b})`, ""},
		{doctype + "<b>x</body> </b>", `!html html(head body(b("x ")))`, "unclosed-elements@19 unexpected-end-tag@27"},
		{doctype + "<p><b></p></body> ", `!html html(head body(p(b) b(" ")))`, "unexpected-end-tag@21"},
		{doctype + "</body>" + doctype, `!html html(head body)`, "unexpected-doctype@22"},
		{doctype + "<body></body><html k=1> ", `!html html[k="1"](head body(" "))`, "unexpected-start-tag@28"},
		{doctype + "<body></body><html k=1><!--a-->", `!html html[k="1"](head body {a})`, "unexpected-start-tag@28"},
		{doctype + "</body></html></html><!--a--> ", `!html html(head body(" ") {a})`, ""},
		{doctype + "</body></body>", `!html html(head body)`, "unexpected-end-tag@22"},
		{doctype + "<p></body>x", `!html html(head body(p("x")))`, "text-not-allowed@25"},
		{doctype + "<p></body>\x00<!--a-->", `!html html(head body(p({a})))`, "unexpected-null-character@25 text-not-allowed@25"},
		{doctype + "<p></body>\ry", `!html html(head body(p("\ry")))`, "text-not-allowed@25"},
		{doctype + "<p></body><p>y", `!html html(head body(p p("y")))`, "unexpected-start-tag@25"},
		{doctype + "<p></body></p>y", `!html html(head body(p "y"))`, "unexpected-end-tag@25"},
		{doctype + "</body><title>a</title>", `!html html(head body(title("a")))`, "unexpected-start-tag@22"},
		{doctype + "</body><body k=1><!--a-->", `!html html(head body[k="1"]({a}))`, "unexpected-start-tag@22"},
		{doctype + "</body><head></body><!--a-->", `!html html(head body {a})`, "unexpected-start-tag@22"},
		{doctype + "<b></body>", `!html html(head body(b))`, "unclosed-elements@18"},
		{doctype + "<b></body>x", `!html html(head body(b("x")))`, "unclosed-elements@18 text-not-allowed@25 unclosed-elements@26"},
		{doctype + "</html>x</html>y", `!html html(head body("xy"))`, "text-not-allowed@22 text-not-allowed@30"},
	})
}

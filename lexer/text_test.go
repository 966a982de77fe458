package lexer_test

import (
	"testing"

	"beadle/lexer"
)

// P5.2
func TestDataText(t *testing.T) {
	checkRows(t, lexer.Data, "", []row{
		{"", ".", ""},
		{"a\tb\n\u00e9\U0001F600", "\"a\\tb\\né😀\" .", ""},
		{"a\x00b", `"a\x00b" .`, "unexpected-null-character@1"},
		{"\r\v\x7f\ufffd>]]>", `"\r\v\x7f` + "\ufffd" + `>]]>" .`, ""},
		{"&amp;<b>", `"&" open("b") .`, ""},
	})
}

// P5.2
func TestRcdata(t *testing.T) {
	checkRows(t, lexer.Rcdata, "title", []row{
		{"a<b></TITLE>c<i>", `"a<b>" close("title") "c" open("i") .`, ""},
		{"&lt;&#x41;&copy</title>", `"<A©" close("title") .`, "missing-semicolon-after-character-reference@10"},
		{"&zz;</title>", `"&zz;" close("title") .`, "unknown-named-character-reference@0"},
		{"a\x00</title>\x00", `"a` + "\ufffd" + `" close("title") "\x00" .`, "unexpected-null-character@1 unexpected-null-character@10"},
		{"</title", `"</title" .`, ""},
		{"</titl>", `"</titl>" .`, ""},
		{"</titles>", `"</titles>" .`, ""},
		{"</title\r>", `"</title\r>" .`, ""},
		{"</title\x00>", `"</title` + "\ufffd" + `>" .`, "unexpected-null-character@7"},
		{"</ title>", `"</ title>" .`, ""},
		{"<</title>", `"<" close("title") .`, ""},
		{"</</title>", `"</" close("title") .`, ""},
		{"</ti</title>", `"</ti" close("title") .`, ""},
		{"</tItLe\t>", `close("title") .`, ""},
		{"</title\n>", `close("title") .`, ""},
		{"</title\f>", `close("title") .`, ""},
		{"</title a=1>", `close("title") .`, "end-tag-with-attributes@0"},
		{"x</title/>", `"x" close("title") .`, "end-tag-with-trailing-solidus@1"},
		{"x</title ", `"x" .`, "eof-in-tag@1"},
		{"<", `"<" .`, ""},
		{"</", `"</" .`, ""},
		{"</>", `"</>" .`, ""},
		{"<!--x--><?y>", `"<!--x--><?y>" .`, ""},
		{"</t\u0130tle>", `"</t` + "\u0130" + `tle>" .`, ""},
	})
}

// P5.2
func TestRaw(t *testing.T) {
	checkRows(t, lexer.Raw, "style", []row{
		{"a<b>&amp;&zz;&#0;</style>&amp;", `"a<b>&amp;&zz;&#0;" close("style") "&" .`, ""},
		{"\x00</style >", `"` + "\ufffd" + `" close("style") .`, "unexpected-null-character@0"},
		{"<!--</style>-->", `"<!--" close("style") "-->" .`, ""},
		{"</script></style>", `"</script>" close("style") .`, ""},
		{"</\u017ftyle>", `"</` + "\u017f" + `tyle>" .`, ""},
	})
}

// P5.2
func TestPlain(t *testing.T) {
	checkRows(t, lexer.Plain, "plaintext", []row{
		{"a<b>&amp;</plaintext>\x00&zz;", `"a<b>&amp;</plaintext>` + "\ufffd" + `&zz;" .`, "unexpected-null-character@21"},
	})
}

// P5.2: the mode's name may be any text; the end tag is then read as P5.3 says.
func TestOddNamesOfModes(t *testing.T) {
	for _, c := range []struct {
		name string
		row
	}{
		{"TiTle", row{"x</title></title>", `"x" close("title") close("title") .`, ""}},
		{"", row{"</x></>y</>", `"</x>y" .`, "missing-end-tag-name@4 missing-end-tag-name@8"}},
		{"", row{"a</ b>c", `"a" comment(" b") "c" .`, "invalid-first-character-of-tag-name@1"}},
		{"1", row{"</2></1><b>", `"</2>" comment("1") open("b") .`, "invalid-first-character-of-tag-name@4"}},
		{"é", row{"</è></é>", `"</è>" comment("é") .`, "invalid-first-character-of-tag-name@5"}},
		{"a b", row{"</a></A B>", `"</a>" close("a") .`, "end-tag-with-attributes@4"}},
		{"a\xff", row{"</a></a\u00ff>", `"</a></aÿ>" .`, ""}},
		{"a>", row{"</a></a>>", `"</a>" close("a") ">" .`, ""}},
	} {
		checkRows(t, lexer.Rcdata, c.name, []row{c.row})
	}
}

// P5.3
func TestMarkup(t *testing.T) {
	checkRows(t, lexer.Data, "", []row{
		{"<p>", `open("p") .`, ""},
		{"<Z>", `open("z") .`, ""},
		{"</p>", `close("p") .`, ""},
		{"a</>b", `"ab" .`, "missing-end-tag-name@1"},
		{"</></>", `.`, "missing-end-tag-name@0 missing-end-tag-name@3"},
		{"</ p>q", `comment(" p") "q" .`, "invalid-first-character-of-tag-name@0"},
		{"</1", `comment("1") .`, "invalid-first-character-of-tag-name@0"},
		{"</<p>q", `comment("<p") "q" .`, "invalid-first-character-of-tag-name@0"},
		{"</\u00e9>", `comment("é") .`, "invalid-first-character-of-tag-name@0"},
		{"</\x00\x00>", `comment("` + "\ufffd\ufffd" + `") .`, "invalid-first-character-of-tag-name@0 unexpected-null-character@2 unexpected-null-character@3"},
		{"a</", `"a</" .`, "eof-before-tag-name@1"},
		{"a<", `"a<" .`, "eof-before-tag-name@1"},
		{"<1", `"<1" .`, "invalid-first-character-of-tag-name@0"},
		{"<<p>", `"<" open("p") .`, "invalid-first-character-of-tag-name@0"},
		{"<&lt;", `"<<" .`, "invalid-first-character-of-tag-name@0"},
		{"<\x00", `"<\x00" .`, "invalid-first-character-of-tag-name@0 unexpected-null-character@1"},
		{"< p>", `"< p>" .`, "invalid-first-character-of-tag-name@0"},
		{"<\u00e9>", `"<é>" .`, "invalid-first-character-of-tag-name@0"},
		{"<>", `"<>" .`, "invalid-first-character-of-tag-name@0"},
		{"<?x y>z", `comment("?x y") "z" .`, "unexpected-question-mark-instead-of-tag-name@0"},
		{"<?", `comment("?") .`, "unexpected-question-mark-instead-of-tag-name@0"},
		{"<?>", `comment("?") .`, "unexpected-question-mark-instead-of-tag-name@0"},
		{"<!x>y", `comment("x") "y" .`, "incorrectly-opened-comment@0"},
		{"<!>y", `comment("") "y" .`, "incorrectly-opened-comment@0"},
		{"<!", `comment("") .`, "incorrectly-opened-comment@0"},
		{"<!-", `comment("-") .`, "incorrectly-opened-comment@0"},
		{"<!->x", `comment("-") "x" .`, "incorrectly-opened-comment@0"},
		{"<!-x->", `comment("-x-") .`, "incorrectly-opened-comment@0"},
		{"<!doctyp", `comment("doctyp") .`, "incorrectly-opened-comment@0"},
		{"<!DOCTYPo x>", `comment("DOCTYPo x") .`, "incorrectly-opened-comment@0"},
		{"<!d-->", `comment("d--") .`, "incorrectly-opened-comment@0"},
		{"<![CDATA[x]]>", `comment("[CDATA[x]]") .`, "incorrectly-opened-comment@0"},
		{"<!\x00>", `comment("` + "\ufffd" + `") .`, "incorrectly-opened-comment@0 unexpected-null-character@2"},
		{"<! doctype>", `comment(" doctype") .`, "incorrectly-opened-comment@0"},
	})
}

// P5.3
func TestComments(t *testing.T) {
	checkRows(t, lexer.Data, "", []row{
		{"<!--c-->d", `comment("c") "d" .`, ""},
		{"<!---->", `comment("") .`, ""},
		{"<!----->", `comment("-") .`, ""},
		{"<!--->x", `comment("") "x" .`, "abrupt-closing-of-empty-comment@0"},
		{"<!-->x", `comment("") "x" .`, "abrupt-closing-of-empty-comment@0"},
		{"a<!-->x", `"a" comment("") "x" .`, "abrupt-closing-of-empty-comment@1"},
		{"<!--a->b-->", `comment("a->b") .`, ""},
		{"<!-->-->", `comment("") "-->" .`, "abrupt-closing-of-empty-comment@0"},
		{"<!--a>-->", `comment("a>") .`, ""},
		{"<!--a--->", `comment("a-") .`, ""},
		{"<!--a--!>b-->", `comment("a") "b-->" .`, "incorrectly-closed-comment@0"},
		{"<!----!>", `comment("") .`, "incorrectly-closed-comment@0"},
		{"<!---!>-->", `comment("-!>") .`, ""},
		{"<!--a--!-->", `comment("a--!") .`, ""},
		{"<!--a--!!>-->", `comment("a--!!>") .`, ""},
		{"<!--a-- >-->", `comment("a-- >") .`, ""},
		{"<!--a<!--b-->", `comment("a<!--b") .`, ""},
		{"<!--", `comment("") .`, "eof-in-comment@0"},
		{"<!---", `comment("") .`, "eof-in-comment@0"},
		{"<!----", `comment("") .`, "eof-in-comment@0"},
		{"<!-----", `comment("-") .`, "eof-in-comment@0"},
		{"<!----!", `comment("") .`, "eof-in-comment@0"},
		{"<!---!", `comment("-!") .`, "eof-in-comment@0"},
		{"<!--!", `comment("!") .`, "eof-in-comment@0"},
		{"<!--a", `comment("a") .`, "eof-in-comment@0"},
		{"<!--a-", `comment("a") .`, "eof-in-comment@0"},
		{"<!--a--", `comment("a") .`, "eof-in-comment@0"},
		{"<!--a---", `comment("a-") .`, "eof-in-comment@0"},
		{"<!--a--!", `comment("a") .`, "eof-in-comment@0"},
		{"<!--a--!-", `comment("a--!") .`, "eof-in-comment@0"},
		{"<!--\x00-->", `comment("` + "\ufffd" + `") .`, "unexpected-null-character@4"},
		{"<!--A&amp;\u00e9-->", `comment("A&amp;é") .`, ""},
	})
}

// P5.3
func TestDoctypes(t *testing.T) {
	checkRows(t, lexer.Data, "", []row{
		{"<!doctype html>", `doctype("html") .`, ""},
		{"<!DocTYPE HtML>x", `doctype("html") "x" .`, ""},
		{"<!doctype\t\n\f html \t>", `doctype("html") .`, ""},
		{"<!doctypehtml>", `doctype("html") .`, "missing-whitespace-before-doctype-name@0"},
		{"<!doctype>", `quirks("") .`, "missing-doctype-name@0"},
		{"<!doctype  >", `quirks("") .`, "missing-doctype-name@0"},
		{"<!doctype", `quirks("") .`, "eof-in-doctype@0"},
		{"<!doctype ", `quirks("") .`, "eof-in-doctype@0"},
		{"<!doctype h", `quirks("h") .`, "eof-in-doctype@0"},
		{"<!doctype html ", `quirks("html") .`, "eof-in-doctype@0"},
		{"<!doctypeh", `quirks("h") .`, "eof-in-doctype@0 missing-whitespace-before-doctype-name@0"},
		{"a<!doctype html public>b", `"a" quirks("html") "b" .`, "invalid-character-sequence-after-doctype-name@1"},
		{"<!doctype html x", `quirks("html") .`, "invalid-character-sequence-after-doctype-name@0"},
		{"<!doctype html \x00>", `quirks("html") .`, "invalid-character-sequence-after-doctype-name@0"},
		{"<!doctype html/>", `doctype("html/") .`, ""},
		{"<!doctype \x00A>", `doctype("` + "\ufffd" + `a") .`, "unexpected-null-character@10"},
		{"<!doctype\x00>", `doctype("` + "\ufffd" + `") .`, "missing-whitespace-before-doctype-name@0 unexpected-null-character@9"},
		{"<!doctype\rx>", `doctype("\rx") .`, "missing-whitespace-before-doctype-name@0"},
		{"<!doctype '>'>", `doctype("'") "'>" .`, ""},
		{"<!doctype \u00c9K>", `doctype("Ék") .`, ""},
		{"<!doctype \u212a>", `doctype("` + "\u212a" + `") .`, ""},
	})
}

package lexer_test

import (
	"slices"
	"strconv"
	"strings"
	"testing"

	"beadle/api"
	"beadle/lexer"
)

// P5.4
func TestTags(t *testing.T) {
	checkRows(t, lexer.Data, "", []row{
		{"<a b=1>", `open("a" "b"="1") .`, ""},
		{"<P a=1 b='x' a=2/>", `open("p" "a"="1" "b"="x") .`, "duplicate-attribute@13"},
		{"<A1-\u00c9Z>", `open("a1-Éz") .`, ""},
		{"<a\x00b>", `open("a` + "\ufffd" + `b") .`, "unexpected-null-character@2"},
		{"<a<b>", `open("a<b") .`, ""},
		{"<a\"='>", `open("a\"='") .`, ""},
		{"<a \t\n\f>", `open("a") .`, ""},
		{"<a\r>", `open("a\r") .`, ""},
		{"<a/>", `open("a" self) .`, ""},
		{"<a />", `open("a" self) .`, ""},
		{"<a b/>", `open("a" "b"="" self) .`, ""},
		{"<a/ >", `open("a") .`, "unexpected-solidus-in-tag@2"},
		{"<a//>", `open("a" self) .`, "unexpected-solidus-in-tag@2"},
		{"<a/b>", `open("a" "b"="") .`, "unexpected-solidus-in-tag@2"},
		{"<a b/c>", `open("a" "b"="" "c"="") .`, "unexpected-solidus-in-tag@4"},
		{"<a b=c/>", `open("a" "b"="c/") .`, ""},
		{"<a b='c'/>", `open("a" "b"="c" self) .`, ""},
		{"<a/=>", `open("a" "="="") .`, "unexpected-solidus-in-tag@2 unexpected-equals-sign-before-attribute-name@3"},
		{"<a/\x00>", `open("a" "` + "\ufffd" + `"="") .`, "unexpected-solidus-in-tag@2 unexpected-null-character@3"},
		{"</a>", `close("a") .`, ""},
		{"x</A b>", `"x" close("a") .`, "end-tag-with-attributes@1"},
		{"x</a/>", `"x" close("a") .`, "end-tag-with-trailing-solidus@1"},
		{"x</a b=1 b/>", `"x" close("a") .`, "end-tag-with-attributes@1 end-tag-with-trailing-solidus@1 duplicate-attribute@9"},
		{"</a =\"/>", `close("a") .`, "end-tag-with-attributes@0 end-tag-with-trailing-solidus@0 unexpected-equals-sign-before-attribute-name@4 unexpected-character-in-attribute-name@5"},
	})
}

// P5.4
func TestAttributes(t *testing.T) {
	checkRows(t, lexer.Data, "", []row{
		{"<a b>", `open("a" "b"="") .`, ""},
		{"<a b c>", `open("a" "b"="" "c"="") .`, ""},
		{"<a b =c>", `open("a" "b"="c") .`, ""},
		{"<a b= c>", `open("a" "b"="c") .`, ""},
		{"<a b\t\n\f =\t\n\f \"c\">", `open("a" "b"="c") .`, ""},
		{"<a B\u00c9=C>", `open("a" "bÉ"="C") .`, ""},
		{"<a =>", `open("a" "="="") .`, "unexpected-equals-sign-before-attribute-name@3"},
		{"<a ==>", `open("a" "="="") .`, "unexpected-equals-sign-before-attribute-name@3 missing-attribute-value@5"},
		{"<a ==b>", `open("a" "="="b") .`, "unexpected-equals-sign-before-attribute-name@3"},
		{"<a ===>", `open("a" "="="=") .`, "unexpected-equals-sign-before-attribute-name@3 unexpected-character-in-unquoted-attribute-value@5"},
		{"<a =b=c>", `open("a" "=b"="c") .`, "unexpected-equals-sign-before-attribute-name@3"},
		{"<a b=c =d>", `open("a" "b"="c" "=d"="") .`, "unexpected-equals-sign-before-attribute-name@7"},
		{"<a \"'<=x>", `open("a" "\"'<"="x") .`, "unexpected-character-in-attribute-name@3 unexpected-character-in-attribute-name@4 unexpected-character-in-attribute-name@5"},
		{"<a b'=x>", `open("a" "b'"="x") .`, "unexpected-character-in-attribute-name@4"},
		{"<a b\x00=x\x00y>", `open("a" "b` + "\ufffd" + `"="x` + "\ufffd" + `y") .`, "unexpected-null-character@4 unexpected-null-character@7"},
		{"<a b='\x00'>", `open("a" "b"="` + "\ufffd" + `") .`, "unexpected-null-character@6"},
		{"<a b=>", `open("a" "b"="") .`, "missing-attribute-value@5"},
		{"<a b= >c", `open("a" "b"="") "c" .`, "missing-attribute-value@6"},
		{"<a b=\"\">", `open("a" "b"="") .`, ""},
		{"<a b=\"x'y>\"c='z\"'>", `open("a" "b"="x'y>" "c"="z\"") .`, "missing-whitespace-between-attributes@11"},
		{"<a b='x' c>", `open("a" "b"="x" "c"="") .`, ""},
		{"<a b='x''y'>", `open("a" "b"="x" "'y'"="") .`, "missing-whitespace-between-attributes@8 unexpected-character-in-attribute-name@8 unexpected-character-in-attribute-name@10"},
		{"<a b='x'=>", `open("a" "b"="x" "="="") .`, "unexpected-equals-sign-before-attribute-name@8 missing-whitespace-between-attributes@8"},
		{"<a b='x'\x00>", `open("a" "b"="x" "` + "\ufffd" + `"="") .`, "unexpected-null-character@8 missing-whitespace-between-attributes@8"},
		{"<a b='x'/c>", `open("a" "b"="x" "c"="") .`, "unexpected-solidus-in-tag@8"},
		{"<a b=x\"'<=`y>", `open("a" "b"="x\"'<=` + "`" + `y") .`, "unexpected-character-in-unquoted-attribute-value@6 unexpected-character-in-unquoted-attribute-value@7 unexpected-character-in-unquoted-attribute-value@8 unexpected-character-in-unquoted-attribute-value@9 unexpected-character-in-unquoted-attribute-value@10"},
		{"<a b=`>", `open("a" "b"="` + "`" + `") .`, "unexpected-character-in-unquoted-attribute-value@5"},
		{"<a b=/>", `open("a" "b"="/") .`, ""},
		{"<a b=x\tc=y\nd=z\fe=w>", `open("a" "b"="x" "c"="y" "d"="z" "e"="w") .`, ""},
		{"<a b=\u00e9\U0001F600>", `open("a" "b"="é😀") .`, ""},
		{"<a\U0010ffff \u0001=\U0010ffff>", `open("a\U0010ffff" "\x01"="\U0010ffff") .`, ""},
		{"<a b='\n<!--'>", `open("a" "b"="\n<!--") .`, ""},
	})
}

// P5.4
func TestDuplicates(t *testing.T) {
	checkRows(t, lexer.Data, "", []row{
		{"<a b=1 B=2 c=3>", `open("a" "b"="1" "c"="3") .`, "duplicate-attribute@7"},
		{"<a b b b>", `open("a" "b"="") .`, "duplicate-attribute@5 duplicate-attribute@7"},
		{"<a b\x00 b\ufffd>", `open("a" "b` + "\ufffd" + `"="") .`, "unexpected-null-character@4 duplicate-attribute@6"},
		{"<a b b=>", `open("a" "b"="") .`, "missing-attribute-value@7 duplicate-attribute@5"},
		{"<a b b='&zz;'>", `open("a" "b"="") .`, "duplicate-attribute@5 unknown-named-character-reference@8"},
		{"<a = =>", `open("a" "="="") .`, "unexpected-equals-sign-before-attribute-name@3 missing-attribute-value@6"},
		{"<a b><a b>", `open("a" "b"="") open("a" "b"="") .`, ""},
		{"</a b><a b>", `close("a") open("a" "b"="") .`, "end-tag-with-attributes@0"},
	})
}

// P5.4: a doubled attribute that is cut off by the end isn't told, but where it was whole ahead of it.
func TestEndInTag(t *testing.T) {
	checkRows(t, lexer.Data, "", []row{
		{"x<a", `"x" .`, "eof-in-tag@1"},
		{"x</a", `"x" .`, "eof-in-tag@1"},
		{"<a ", `.`, "eof-in-tag@0"},
		{"</a b=1 ", `.`, "eof-in-tag@0"},
		{"<a\x00", `.`, "unexpected-null-character@2 eof-in-tag@0"},
		{"<a =", `.`, "eof-in-tag@0 unexpected-equals-sign-before-attribute-name@3"},
		{"<a '", `.`, "eof-in-tag@0 unexpected-character-in-attribute-name@3"},
		{"<a b=", `.`, "eof-in-tag@0"},
		{"<a b= ", `.`, "eof-in-tag@0"},
		{"<a b=`", `.`, "eof-in-tag@0 unexpected-character-in-unquoted-attribute-value@5"},
		{"<a b='", `.`, "eof-in-tag@0"},
		{"<a b=''", `.`, "eof-in-tag@0"},
		{"<a b=''c", `.`, "eof-in-tag@0 missing-whitespace-between-attributes@7"},
		{"<a b b", `.`, "eof-in-tag@0"},
		{"<a b b ", `.`, "eof-in-tag@0"},
		{"<a b b=", `.`, "eof-in-tag@0"},
		{"<a b b=c", `.`, "eof-in-tag@0"},
		{"<a b b='c", `.`, "eof-in-tag@0"},
		{"<a b b/", `.`, "eof-in-tag@0 unexpected-solidus-in-tag@6 duplicate-attribute@5"},
		{"<a b b c", `.`, "eof-in-tag@0 duplicate-attribute@5"},
		{"<a b b=c ", `.`, "eof-in-tag@0 duplicate-attribute@5"},
		{"<a b b='c'", `.`, "eof-in-tag@0 duplicate-attribute@5"},
		{"<a b=&#65", `.`, "eof-in-tag@0 missing-semicolon-after-character-reference@5"},
		{"<a b=&#", `.`, "eof-in-tag@0 absence-of-digits-in-numeric-character-reference@5"},
		{"<a b=&copy", `.`, "eof-in-tag@0 missing-semicolon-after-character-reference@5"},
		{"<a b=&zz", `.`, "eof-in-tag@0"},
		{"<a b=&zz;", `.`, "eof-in-tag@0 unknown-named-character-reference@5"},
	})
}

// P5.4: a `/` that stands last in the document is one that no `>` follows, but where it belongs to a value or begins an end tag.
func TestSolidusAtTheEnd(t *testing.T) {
	checkRows(t, lexer.Data, "", []row{
		{"<a/", `.`, "eof-in-tag@0 unexpected-solidus-in-tag@2"},
		{"x<a /", `"x" .`, "eof-in-tag@1 unexpected-solidus-in-tag@4"},
		{"</a/", `.`, "eof-in-tag@0 unexpected-solidus-in-tag@3"},
		{"</a /", `.`, "eof-in-tag@0 unexpected-solidus-in-tag@4"},
		{"<a//", `.`, "eof-in-tag@0 unexpected-solidus-in-tag@2 unexpected-solidus-in-tag@3"},
		{"<a/ ", `.`, "eof-in-tag@0 unexpected-solidus-in-tag@2"},
		{"<a b/", `.`, "eof-in-tag@0 unexpected-solidus-in-tag@4"},
		{"<a b /", `.`, "eof-in-tag@0 unexpected-solidus-in-tag@5"},
		{"<a =/", `.`, "eof-in-tag@0 unexpected-equals-sign-before-attribute-name@3 unexpected-solidus-in-tag@4"},
		{"<a b='c'/", `.`, "eof-in-tag@0 unexpected-solidus-in-tag@8"},
		{"<a b=c /", `.`, "eof-in-tag@0 unexpected-solidus-in-tag@7"},
		{"<a b=/", `.`, "eof-in-tag@0"},
		{"<a b=c/", `.`, "eof-in-tag@0"},
		{"<a b='/", `.`, "eof-in-tag@0"},
		{"</", `"</" .`, "eof-before-tag-name@0"},
	})
	checkRows(t, lexer.Rcdata, "title", []row{
		{"x</title/", `"x" .`, "eof-in-tag@1 unexpected-solidus-in-tag@8"},
	})
}

// P5.4: tags and attributes of any number, in time that grows with them.
func TestManyAttributes(t *testing.T) {
	const many = 150000
	var b strings.Builder
	b.WriteString("<a")
	for i := range many {
		b.WriteString(" " + strconv.FormatInt(int64(i), 36))
	}
	b.WriteString(" 0=1>")
	tokens, wrong := lexed(lexer.Data, "", b.String())
	if len(tokens) != 2 || len(tokens[0].Attrs) != many {
		t.Fatalf("%d tokens", len(tokens))
	}
	if want := []api.Diag{{Code: api.DuplicateAttribute, At: b.Len() - 4}}; !slices.Equal(wrong, want) {
		t.Errorf("%v", wrong)
	}
}

// P5.4: what one token has is no other's.
func TestAttrsAreNew(t *testing.T) {
	tokens, _ := lexed(lexer.Data, "", "<a b=1 c=2><a d=3>")
	one := tokens[0].Attrs
	_ = append(one, api.Attr{Name: "x"})
	one[0].Value = "9"
	if got := show(tokens[1:]); got != `open("a" "d"="3") .` {
		t.Error(got)
	}
}

package lexer_test

import (
	"strings"
	"testing"

	"beadle/api"
	"beadle/charref"
	"beadle/lexer"
)

// P5.5
func TestNumbersInText(t *testing.T) {
	checkRows(t, lexer.Data, "", []row{
		{"&#65;&#x41;&#X4a;&#x4A;", `"AAJJ" .`, ""},
		{"&#65", `"A" .`, "missing-semicolon-after-character-reference@0"},
		{"a&#65b", `"aAb" .`, "missing-semicolon-after-character-reference@1"},
		{"&#x41g", `"Ag" .`, "missing-semicolon-after-character-reference@0"},
		{"&#65&#66;", `"AB" .`, "missing-semicolon-after-character-reference@0"},
		{"&#65<b>", `"A" open("b") .`, "missing-semicolon-after-character-reference@0"},
		{"&#65a;", `"Aa;" .`, "missing-semicolon-after-character-reference@0"},
		{"&#000000000000000000000000065;", `"A" .`, ""},
		{"&#", `"&#" .`, "absence-of-digits-in-numeric-character-reference@0"},
		{"&#;", `"&#;" .`, "absence-of-digits-in-numeric-character-reference@0"},
		{"&#x", `"&#x" .`, "absence-of-digits-in-numeric-character-reference@0"},
		{"&#X;", `"&#X;" .`, "absence-of-digits-in-numeric-character-reference@0"},
		{"&#xg", `"&#xg" .`, "absence-of-digits-in-numeric-character-reference@0"},
		{"&#a", `"&#a" .`, "absence-of-digits-in-numeric-character-reference@0"},
		{"&#&#x<b>", `"&#&#x" open("b") .`, "absence-of-digits-in-numeric-character-reference@0 absence-of-digits-in-numeric-character-reference@2"},
		{"&#xx41;", `"&#xx41;" .`, "absence-of-digits-in-numeric-character-reference@0"},
		{"&#-1;", `"&#-1;" .`, "absence-of-digits-in-numeric-character-reference@0"},
		{"&#0;", `"` + "\ufffd" + `" .`, "null-character-reference@0"},
		{"&#0", `"` + "\ufffd" + `" .`, "missing-semicolon-after-character-reference@0 null-character-reference@0"},
		{"&#x110000;", `"` + "\ufffd" + `" .`, "character-reference-outside-unicode-range@0"},
		{"&#xD800;", `"` + "\ufffd" + `" .`, "surrogate-character-reference@0"},
		{"&#xFFFE;", `"\ufffe" .`, "noncharacter-character-reference@0"},
		{"&#x10FFFF;", `"\U0010ffff" .`, "noncharacter-character-reference@0"},
		{"&#x7f;&#10;&#13;", `"\x7f\n\r" .`, "control-character-reference@0 control-character-reference@11"},
		{"&#128;", `"€" .`, "control-character-reference@0"},
	})
}

// P5.5: numbers of any length, also such as wrap round.
func TestLongNumbers(t *testing.T) {
	for _, text := range []string{
		"&#18446744073709551681;", "&#x10000000000000041;", "&#9223372036854775808;", "&#4294967361;", "&#x100000041;",
		"&#" + strings.Repeat("9", 100000) + ";", "&#x1" + strings.Repeat("0", 100000) + ";",
	} {
		tokens, wrong := lexed(lexer.Data, "", text)
		if got := show(tokens); got != `"`+"\ufffd"+`" .` {
			t.Errorf("%.30q: %.100s", text, got)
		}
		if got := showWrong(wrong); got != "character-reference-outside-unicode-range@0" {
			t.Errorf("%.30q: %s", text, got)
		}
	}
}

// P5.5
func TestNamesInText(t *testing.T) {
	checkRows(t, lexer.Data, "", []row{
		{"&amp;&AMP;&lt;", `"&&<" .`, ""},
		{"&amp;amp;", `"&amp;" .`, ""},
		{"&notit;", `"¬it;" .`, "missing-semicolon-after-character-reference@0"},
		{"&notin;&notin&notinx;", `"∉¬in¬inx;" .`, "missing-semicolon-after-character-reference@7 missing-semicolon-after-character-reference@13"},
		{"&notinE;", `"` + "\u22f9\u0338" + `" .`, ""},
		{"&copy", `"©" .`, "missing-semicolon-after-character-reference@0"},
		{"&copy=&copyx&copysr;", `"©=©x℗" .`, "missing-semicolon-after-character-reference@0 missing-semicolon-after-character-reference@6"},
		{"&frac12x", `"½x" .`, "missing-semicolon-after-character-reference@0"},
		{"&frac1;", `"&frac1;" .`, "unknown-named-character-reference@0"},
		{"&am;", `"&am;" .`, "unknown-named-character-reference@0"},
		{"&am", `"&am" .`, ""},
		{"&alpha", `"&alpha" .`, ""},
		{"&alpha x;", `"&alpha x;" .`, ""},
		{"&alphax;", `"&alphax;" .`, "unknown-named-character-reference@0"},
		{"&zz;z;", `"&zz;z;" .`, "unknown-named-character-reference@0"},
		{"&1;", `"&1;" .`, "unknown-named-character-reference@0"},
		{"&9z", `"&9z" .`, ""},
		{"&zz&zz;", `"&zz&zz;" .`, "unknown-named-character-reference@3"},
		{"&zz&amp;;", `"&zz&;" .`, ""},
		{"&zz<b>;", `"&zz" open("b") ";" .`, ""},
		{"&zz\x00;", `"&zz\x00;" .`, "unexpected-null-character@3"},
		{"&zz-;", `"&zz-;" .`, ""},
		{"&z\u00e9;", `"&zé;" .`, ""},
		{"&\u00e9;", `"&é;" .`, ""},
		{"&am\u0170;", `"&amŰ;" .`, ""},
		{"&am\u0170", `"&amŰ" .`, ""},
		{"&amp\u013b", `"&Ļ" .`, "missing-semicolon-after-character-reference@0"},
		{"&;", `"&;" .`, ""},
		{"&", `"&" .`, ""},
		{"&&amp;", `"&&" .`, ""},
		{"& amp;", `"& amp;" .`, ""},
		{"&=;", `"&=;" .`, ""},
		{"&<b>", `"&" open("b") .`, ""},
		{"&\x00", `"&\x00" .`, "unexpected-null-character@1"},
	})
}

// P5.5: each name, in text and in values, whole and as far as it goes.
func TestEachName(t *testing.T) {
	for _, name := range charref.Names() {
		_, scalars := charref.Longest(name)
		var text []rune
		for _, s := range scalars {
			text = append(text, rune(s))
		}
		wrong := ""
		if !strings.HasSuffix(name, ";") {
			wrong = "missing-semicolon-after-character-reference"
		}
		for _, c := range []struct{ text, tokens, at string }{
			{"&" + name + ".", show(append(texts(string(text)+"."), lexer.Token{})), "@0"},
			{"<a b=&" + name + ">", show([]lexer.Token{{Kind: lexer.Open, Name: "a", Attrs: []api.Attr{{Name: "b", Value: string(text)}}}, {}}), "@5"},
		} {
			want := wrong
			if want != "" {
				want += c.at
			}
			checkRows(t, lexer.Data, "", []row{{c.text, c.tokens, want}})
		}
	}
}

func texts(s string) []lexer.Token {
	var out []lexer.Token
	for _, v := range s {
		out = append(out, lexer.Token{Kind: lexer.Text, Value: int(v)})
	}
	return out
}

// P5.5
func TestReferencesInValues(t *testing.T) {
	checkRows(t, lexer.Data, "", []row{
		{"<a b='&amp;&#65;&#x42;'>", `open("a" "b"="&AB") .`, ""},
		{"<a b=&lt;&quot;&gt;>", `open("a" "b"="<\">") .`, ""},
		{"<a b=&#39;&#32;>", `open("a" "b"="' ") .`, ""},
		{"<a b='&#39;'>", `open("a" "b"="'") .`, ""},
		{"<a b=\"&copy\">", `open("a" "b"="©") .`, "missing-semicolon-after-character-reference@6"},
		{"<a b=\"&copy &copy-\">", `open("a" "b"="© ©-") .`, "missing-semicolon-after-character-reference@6 missing-semicolon-after-character-reference@12"},
		{"<a b=\"&copy=&copyx&copy1\">", `open("a" "b"="&copy=&copyx&copy1") .`, ""},
		{"<a b=\"&copyx;\">", `open("a" "b"="&copyx;") .`, ""},
		{"<a b=\"&notin&notin;\">", `open("a" "b"="&notin∉") .`, ""},
		{"<a b=\"&copy;=\">", `open("a" "b"="©=") .`, ""},
		{"<a b=&copy=1>", `open("a" "b"="&copy=1") .`, "unexpected-character-in-unquoted-attribute-value@10"},
		{"<a b=&copy>", `open("a" "b"="©") .`, "missing-semicolon-after-character-reference@5"},
		{"<a b=&copy c>", `open("a" "b"="©" "c"="") .`, "missing-semicolon-after-character-reference@5"},
		{"<a b=\"&copy&copy\">", `open("a" "b"="©©") .`, "missing-semicolon-after-character-reference@6 missing-semicolon-after-character-reference@11"},
		{"<a b='&zz;&zz'c=x;>", `open("a" "b"="&zz;&zz" "c"="x;") .`, "unknown-named-character-reference@6 missing-whitespace-between-attributes@14"},
		{"<a b=&zz>;", `open("a" "b"="&zz") ";" .`, ""},
		{"<a b=&acE;&NotEqualTilde;>", `open("a" "b"="` + "\u223e\u0333\u2242\u0338" + `") .`, ""},
		{"<a b='&#'>", `open("a" "b"="&#") .`, "absence-of-digits-in-numeric-character-reference@6"},
		{"<a b='&#x'>", `open("a" "b"="&#x") .`, "absence-of-digits-in-numeric-character-reference@6"},
		{"<a b=&#x>", `open("a" "b"="&#x") .`, "absence-of-digits-in-numeric-character-reference@5"},
		{"<a b='&#65'>", `open("a" "b"="A") .`, "missing-semicolon-after-character-reference@6"},
		{"<a b='&#65=&#65a'>", `open("a" "b"="A=Aa") .`, "missing-semicolon-after-character-reference@6 missing-semicolon-after-character-reference@11"},
		{"<a b='&#0;&#128'>", `open("a" "b"="` + "\ufffd" + `€") .`, "null-character-reference@6 missing-semicolon-after-character-reference@10 control-character-reference@10"},
		{"<a b='&'c='& &;'>", `open("a" "b"="&" "c"="& &;") .`, "missing-whitespace-between-attributes@8"},
		{"<a b=&>", `open("a" "b"="&") .`, ""},
		{"<a &amp;=1>", `open("a" "&amp;"="1") .`, ""},
	})
}

// P5.5: a reference's scalars stand at its place, text by itself at its own.
func TestPlacesOfReferences(t *testing.T) {
	for text, want := range map[string][]int{
		"x&acE;y":  {0, 1, 1, 6, 7},
		"&#65;b":   {0, 5, 6},
		"&#x;":     {0, 1, 2, 3, 4},
		"&zz;":     {0, 1, 2, 3, 4},
		"&notit;":  {0, 4, 5, 6, 7},
		"é&lt;é":   {0, 2, 6, 8},
		"<!---->x": {0, 7, 8},
		"</>x</p>": {3, 4, 8},
		"</":       {0, 1, 2},
	} {
		tokens, _ := lexed(lexer.Data, "", text)
		var got []int
		for _, k := range tokens {
			got = append(got, k.At)
		}
		if len(got) != len(want) {
			t.Errorf("%q: %v", text, got)
			continue
		}
		for i := range got {
			if got[i] != want[i] {
				t.Errorf("%q: %v, want %v", text, got, want)
				break
			}
		}
	}
}

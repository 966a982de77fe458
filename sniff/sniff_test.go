package sniff_test

import (
	"strings"
	"testing"

	"beadle/api"
	"beadle/sniff"
)

func TestCodingsHaveTheirNumbers(t *testing.T) {
	if sniff.UTF8 != 1 || sniff.Windows != 2 {
		t.Errorf("UTF8 %d, Windows %d", sniff.UTF8, sniff.Windows)
	}
}

// P1.1

func TestLabelKnowsItsNames(t *testing.T) {
	lists := map[int]string{
		sniff.UTF8:    "utf-8 utf8 unicode-1-1-utf-8 utf-16 utf-16le utf-16be",
		sniff.Windows: "windows-1252 cp1252 latin1 l1 iso-8859-1 ascii us-ascii",
	}
	for want, names := range lists {
		for _, name := range strings.Fields(names) {
			for _, s := range []string{name, strings.ToUpper(name), "\t\n\f\r " + name + " \r\f\n\t"} {
				if c, ok := sniff.Label(s); c != want || !ok {
					t.Errorf("Label(%q): %d %v", s, c, ok)
				}
			}
		}
	}
}

func TestLabelRefusesOthers(t *testing.T) {
	names := []string{
		"", " ", "\t\n\f\r ", "utf", "utf-88", "utf-7", "utf_8", "utf -8", "koi8-r", "iso-8859-15", "latin-1",
		"\vutf-8", "utf-8\v", "utf-8\x00", "\x85utf-8", "\u00a0utf-8", "\ufeffutf-8", "utf-8;", "utf-8 utf-8",
		"a\u017fcii", "\xff", "utf-16\xff",
	}
	for _, name := range names {
		if c, ok := sniff.Label(name); c != 0 || ok {
			t.Errorf("Label(%q): %d %v", name, c, ok)
		}
	}
}

// P1.2

func TestCharset(t *testing.T) {
	tests := []struct {
		text, want string
		ok         bool
	}{
		{"text/html; charset=utf-8", "utf-8", true},
		{"charset=UTF-8", "UTF-8", true},
		{"CharSet=x", "x", true},
		{"charset\t\n\f\r = \t\n\f\r x", "x", true},
		{"charset=x;y", "x", true},
		{"charset=x y", "x", true},
		{"charset=x\fy", "x", true},
		{"charset=x\"y'z", "x\"y'z", true},
		{"charset=\"a b;'c\"d", "a b;'c", true},
		{"charset='a\"b'", "a\"b", true},
		{"charset=''", "", true},
		{"charset=\" A \"", " A ", true},
		{"charset=;", "", true},
		{"charset==x", "=x", true},
		{"charset=\xff\x00\v", "\xff\x00\v", true},
		{"xcharset=y", "y", true},
		{"charset charset=x", "x", true},
		{"charsetcharset=x", "x", true},
		{"charset: charset x charset = x", "x", true},
		{"charcharset=x", "x", true},
		{"charset=charset=x", "charset=x", true},
		{"\xc4\xb0charset=x", "x", true},
		{"", "", false},
		{"text/html", "", false},
		{"charset", "", false},
		{"charset ", "", false},
		{"charset=", "", false},
		{"charset= \t", "", false},
		{"charset;=x", "", false},
		{"charset\v=x", "", false},
		{"chars et=x", "", false},
		{"char\u017fet=x", "", false},
		{"charset=\"x", "", false},
		{"charset='x\"", "", false},
		{"charset=\"", "", false},
		{"charset=' charset=x", "", false},
	}
	for _, c := range tests {
		if s, ok := sniff.Charset(c.text); s != c.want || ok != c.ok {
			t.Errorf("Charset(%q): %q %v, want %q %v", c.text, s, ok, c.want, c.ok)
		}
	}
}

// P1.3

type attributeCase struct {
	data        string
	at          int
	name, value string
	end         int
	ok          bool
}

func checkAttributes(t *testing.T, tests []attributeCase) {
	t.Helper()
	for _, c := range tests {
		a, end, ok := sniff.Attribute(c.data, c.at)
		want := api.Attr{Name: c.name, Value: c.value}
		if a != want || end != c.end || ok != c.ok {
			t.Errorf("Attribute(%q, %d): %q %d %v, want %q %d %v", c.data, c.at, a, end, ok, want, c.end, c.ok)
		}
	}
}

func TestAttributeTakesOne(t *testing.T) {
	checkAttributes(t, []attributeCase{
		{"a=b>", 0, "a", "b", 3, true},
		{"Name=VALUE c", 0, "name", "value", 10, true},
		{"@AZ[=@AZ[>", 0, "@az[", "@az[", 9, true},
		{"AZ='AZ'>", 0, "az", "az", 7, true},
		{"\t\n\f\r /a=b>", 0, "a", "b", 9, true},
		{"//a>", 0, "a", "", 3, true},
		{"a/b", 0, "a", "", 1, true},
		{"a b>", 0, "a", "", 2, true},
		{"a \t\n\f\r >", 0, "a", "", 7, true},
		{"a \t\n\f\r = \t\n\f\r b>", 0, "a", "b", 15, true},
		{"a /=b>", 0, "a", "", 2, true},
		{"=>", 0, "=", "", 1, true},
		{"==b>", 0, "=", "b", 3, true},
		{"=a=b>", 0, "=a", "b", 4, true},
		{"a=>", 0, "a", "", 2, true},
		{"a= >", 0, "a", "", 3, true},
		{"a=b/c>", 0, "a", "b/c", 5, true},
		{"a=/>", 0, "a", "/", 3, true},
		{"a=b=c\"d'>", 0, "a", "b=c\"d'", 8, true},
		{"\"a'=b>", 0, "\"a'", "b", 5, true},
		{"<a=b>", 0, "<a", "b", 4, true},
		{"a=\"B > /'\" c", 0, "a", "b > /'", 10, true},
		{"a='\"'>", 0, "a", "\"", 5, true},
		{"a=''", 0, "a", "", 4, true},
		{"a=\"b\"c", 0, "a", "b", 5, true},
		{"\x00\xff\xc3\x84=\xc3\x84\x00>", 0, "\x00\xff\xc3\x84", "\xc3\x84\x00", 8, true},
		{"a\v=\vb>", 0, "a\v", "\vb", 5, true},
		{"x a=b>", 2, "a", "b", 5, true},
		{"xya=b>", 2, "a", "b", 5, true},
	})
}

func TestAttributeEndsWithBlanksAtTheEnd(t *testing.T) {
	checkAttributes(t, []attributeCase{
		{"a ", 0, "a", "", 2, true},
		{"a \t", 0, "a", "", 3, true},
	})
}

func TestAttributeTellsNothing(t *testing.T) {
	checkAttributes(t, []attributeCase{
		{"", 0, "", "", 0, false},
		{">", 0, "", "", 0, false},
		{" / >a=b", 0, "", "", 3, false},
		{" / ", 0, "", "", 3, false},
		{"a=b>", 3, "", "", 3, false},
		{"a=b>", 4, "", "", 4, false},
		{"a", 0, "", "", 1, false},
		{"abc", 1, "", "", 3, false},
		{"=", 0, "", "", 1, false},
		{"a=", 0, "", "", 2, false},
		{"a = ", 0, "", "", 4, false},
		{"a=b", 0, "", "", 3, false},
		{"a=b/", 0, "", "", 4, false},
		{"a=\"b", 0, "", "", 4, false},
		{"a=\"b'> ", 0, "", "", 7, false},
		{"a='", 0, "", "", 3, false},
	})
}

func TestAttributeOfAPlaceThatThereIsNot(t *testing.T) {
	const most = int(^uint(0) >> 1)
	checkAttributes(t, []attributeCase{
		{"a=b>", -1, "", "", 0, false},
		{"a=b>", 5, "", "", 0, false},
		{"", 1, "", "", 0, false},
		{"a=b>", most, "", "", 0, false},
		{"a=b>", -most - 1, "", "", 0, false},
	})
}

// P1.5

func TestChoose(t *testing.T) {
	const bom = "\xef\xbb\xbf"
	tests := []struct {
		data, transport string
		coding, skip    int
		bad             bool
	}{
		{bom, "", sniff.UTF8, 3, false},
		{bom + "<meta charset=latin1>", "", sniff.UTF8, 3, false},
		{bom + "a", "latin1", sniff.UTF8, 3, false},
		{bom + "a", "no such", sniff.UTF8, 3, false},
		{bom[:2], "", sniff.Windows, 0, false},
		{"a" + bom, "", sniff.Windows, 0, false},
		{"\xff\xfea\x00", "", sniff.Windows, 0, false},
		{"a", " UTF-8 ", sniff.UTF8, 0, false},
		{"a", "latin1", sniff.Windows, 0, false},
		{"a", "koi8-r", sniff.Windows, 0, true},
		{"a", " ", sniff.Windows, 0, true},
		{"<meta charset=utf-8>", "latin1", sniff.Windows, 0, false},
		{"<meta charset=utf-8>", "koi8-r", sniff.Windows, 0, true},
		{"<meta charset=koi8-r>", "utf-8", sniff.UTF8, 0, false},
		{"<meta charset=utf-8>", "", sniff.UTF8, 0, false},
		{"<meta charset=' UTF-8 '>", "", sniff.UTF8, 0, false},
		{"<meta charset=utf-16be>", "", sniff.UTF8, 0, false},
		{"<meta charset=l1>", "", sniff.Windows, 0, false},
		{"<meta charset=koi8-r>", "", sniff.Windows, 0, true},
		{"<meta charset=koi8-r><meta charset=utf-8>", "", sniff.Windows, 0, true},
		{"<meta charset=''>", "", sniff.Windows, 0, false},
		{"a", "", sniff.Windows, 0, false},
		{"", "", sniff.Windows, 0, false},
		{"", "utf8", sniff.UTF8, 0, false},
	}
	for _, c := range tests {
		coding, skip, bad := sniff.Choose(c.data, c.transport)
		if coding != c.coding || skip != c.skip || bad != c.bad {
			t.Errorf("Choose(%q, %q): %d %d %v, want %d %d %v", c.data, c.transport, coding, skip, bad, c.coding, c.skip, c.bad)
		}
	}
}

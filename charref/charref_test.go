package charref_test

import (
	"slices"
	"strconv"
	"strings"
	"testing"

	"beadle/charref"
)

// table is that of the chapter: a name, and its scalars.
const table = `
AMP 38 | AMP; 38 | Alpha; 913 | Eacute 201 | Eacute; 201 | GT 62
GT; 62 | LT 60 | LT; 60 | NewLine; 10 | NotEqualTilde; 8770 824 | Omega; 937
Ouml 214 | Ouml; 214 | QUOT 34 | QUOT; 34 | REG 174 | REG; 174
Tab; 9 | aacute 225 | aacute; 225 | acE; 8766 819 | alpha; 945 | amp 38
amp; 38 | apos; 39 | auml 228 | auml; 228 | beta; 946 | bull; 8226
cent 162 | cent; 162 | centerdot; 183 | copy 169 | copy; 169 | copysr; 8471
deg 176 | deg; 176 | divide 247 | divide; 247 | divideontimes; 8903 | eacute 233
eacute; 233 | euro; 8364 | frac12 189 | frac12; 189 | frac14 188 | frac14; 188
gt 62 | gt; 62 | gtcc; 10919 | hellip; 8230 | iexcl 161 | iexcl; 161
in; 8712 | laquo 171 | laquo; 171 | ldquo; 8220 | lsquo; 8216 | lt 60
lt; 60 | ltcc; 10918 | mdash; 8212 | micro 181 | micro; 181 | middot 183
middot; 183 | nbsp 160 | nbsp; 160 | ndash; 8211 | not 172 | not; 172
notin; 8713 | notinE; 8953 824 | omega; 969 | ouml 246 | ouml; 246 | para 182
para; 182 | parallel; 8741 | pi; 960 | plusmn 177 | plusmn; 177 | pound 163
pound; 163 | quot 34 | quot; 34 | raquo 187 | raquo; 187 | rdquo; 8221
reg 174 | reg; 174 | rsquo; 8217 | sect 167 | sect; 167 | shy 173
shy; 173 | szlig 223 | szlig; 223 | times 215 | times; 215 | timesb; 8864
trade; 8482 | uml 168 | uml; 168 | uuml 252 | uuml; 252 | yen 165
yen; 165
`

type row struct {
	name    string
	scalars []int
}

func rows() []row {
	var out []row
	for part := range strings.FieldsFuncSeq(table, func(r rune) bool { return r == '|' || r == '\n' }) {
		fields := strings.Fields(part)
		r := row{name: fields[0]}
		for _, f := range fields[1:] {
			n, err := strconv.Atoi(f)
			if err != nil {
				panic(err)
			}
			r.scalars = append(r.scalars, n)
		}
		out = append(out, r)
	}
	return out
}

func slowLongest(text string) (string, []int) {
	var best row
	for _, r := range rows() {
		if strings.HasPrefix(text, r.name) && len(r.name) > len(best.name) {
			best = r
		}
	}
	return best.name, best.scalars
}

func slowBegins(text string) bool {
	return slices.ContainsFunc(rows(), func(r row) bool {
		return strings.HasPrefix(r.name, text) && len(r.name) > len(text)
	})
}

// P4.1
func TestNames(t *testing.T) {
	var want []string
	for _, r := range rows() {
		want = append(want, r.name)
	}
	slices.Sort(want)
	if len(want) != 109 {
		t.Fatalf("the test's table has %d names", len(want))
	}
	if got := charref.Names(); !slices.Equal(got, want) {
		t.Errorf("Names: %q", got)
	}
}

// P4.1
func TestNamesAreNew(t *testing.T) {
	one := charref.Names()
	want := slices.Clone(one)
	two := charref.Names()
	clear(one)
	if !slices.Equal(two, want) || !slices.Equal(charref.Names(), want) {
		t.Error("answers share memory")
	}
	if name, _ := charref.Longest("AMP;"); name != "AMP;" {
		t.Error("a list that was handed out is still looked at")
	}
}

// P4.1
func TestLongest(t *testing.T) {
	for _, c := range []struct {
		text, name string
		scalars    []int
	}{
		{"notit;", "not", []int{172}},
		{"not", "not", []int{172}},
		{"not;in", "not;", []int{172}},
		{"notin", "not", []int{172}},
		{"notin;", "notin;", []int{8713}},
		{"notinE", "not", []int{172}},
		{"notinE;;", "notinE;", []int{8953, 824}},
		{"NotEqualTilde;x", "NotEqualTilde;", []int{8770, 824}},
		{"NotEqualTilde", "", nil},
		{"acE;", "acE;", []int{8766, 819}},
		{"copysr;", "copysr;", []int{8471}},
		{"copysr", "copy", []int{169}},
		{"ampamp;", "amp", []int{38}},
		{"yen;", "yen;", []int{165}},
		{"yenzzz", "yen", []int{165}},
		{"AMP", "AMP", []int{38}},
		{"Amp;", "", nil},
		{"AM", "", nil},
		{"", "", nil},
		{";", "", nil},
		{"&amp;", "", nil},
		{" amp;", "", nil},
		{"\x00amp;", "", nil},
		{"amp\xff", "amp", []int{38}},
		{"\xff", "", nil},
		{"zzz", "", nil},
		{"gt" + strings.Repeat("x", 100000), "gt", []int{62}},
	} {
		name, scalars := charref.Longest(c.text)
		if name != c.name || !slices.Equal(scalars, c.scalars) {
			t.Errorf("Longest(%.20q): %q, %v; want %q, %v", c.text, name, scalars, c.name, c.scalars)
		}
	}
}

// P4.1: all names, all their beginnings, and what may stand behind these.
func TestBesideTheTable(t *testing.T) {
	tails := []string{"", ";", "a", "A", "i", "in;", "=", "\x00", "\xff", "é"}
	for _, r := range rows() {
		for n := range len(r.name) + 1 {
			for _, tail := range tails {
				text := r.name[:n] + tail
				name, scalars := charref.Longest(text)
				wantName, wantScalars := slowLongest(text)
				if name != wantName || !slices.Equal(scalars, wantScalars) {
					t.Errorf("Longest(%q): %q, %v; want %q, %v", text, name, scalars, wantName, wantScalars)
				}
				if got := charref.Begins(text); got != slowBegins(text) {
					t.Errorf("Begins(%q): %t", text, got)
				}
			}
		}
	}
}

// P4.1
func TestScalarsAreNew(t *testing.T) {
	_, one := charref.Longest("acE;")
	_, two := charref.Longest("acE;")
	clear(one)
	if _, three := charref.Longest("acE;"); two[0] != 8766 || three[0] != 8766 || three[1] != 819 {
		t.Error("answers share memory")
	}
}

// P4.1
func TestBegins(t *testing.T) {
	for text, want := range map[string]bool{
		"": true, "a": true, "A": true, "no": true, "not": true, "notin": true, "yen": true, "NotEqualTilde": true, "frac1": true,
		"not;": false, "notin;": false, "yen;": false, "acE;": false, "zzzz": false, "z": false, ";": false, "NO": false,
		"noti": true, "notit": false, "amp ": false, "&": false, "\x00": false, "\xff": false, "B": false, "0": false,
	} {
		if got := charref.Begins(text); got != want {
			t.Errorf("Begins(%q): %t", text, got)
		}
	}
}

package lexer_test

import (
	"math"
	"slices"
	"strings"
	"testing"

	"beadle/api"
	"beadle/lexer"
)

func TestNumbers(t *testing.T) {
	kinds := []int{lexer.End, lexer.Text, lexer.Open, lexer.Close, lexer.Comment, lexer.Doctype}
	modes := []int{lexer.Data, lexer.Rcdata, lexer.Raw, lexer.Plain}
	if !slices.Equal(kinds, []int{0, 1, 2, 3, 4, 5}) || !slices.Equal(modes, []int{0, 1, 2, 3}) {
		t.Errorf("%v %v", kinds, modes)
	}
}

// P5.1
func TestOf(t *testing.T) {
	for name, want := range map[string]int{
		"title": lexer.Rcdata, "textarea": lexer.Rcdata, "style": lexer.Raw, "script": lexer.Raw, "xmp": lexer.Raw,
		"plaintext": lexer.Plain, "": lexer.Data, "p": lexer.Data, "Title": lexer.Data, "title ": lexer.Data,
		"iframe": lexer.Data, "noscript": lexer.Data, "listing": lexer.Data, "\xff": lexer.Data,
	} {
		if got := lexer.Of(name); got != want {
			t.Errorf("Of(%q): %d", name, got)
		}
	}
}

// P5.1
func TestNil(t *testing.T) {
	var l *lexer.Lexer
	l.Put(runes("a"))
	l.Mode(lexer.Raw, "style")
	l.Close(1)
	if k, ok := l.Next(); ok || show([]lexer.Token{k}) != "." || k.At != 0 {
		t.Errorf("%v %v", k, ok)
	}
	if wrong := l.Wrong(); len(wrong) != 0 {
		t.Errorf("%v", wrong)
	}
}

// P5.1
func TestEnd(t *testing.T) {
	for _, at := range []int{0, 7, -1, math.MaxInt, math.MinInt} {
		l := lexer.New()
		if k, ok := l.Next(); ok {
			t.Errorf("ahead of Close: %v", k)
		}
		l.Close(at)
		k, ok := l.Next()
		if !ok || k.Kind != lexer.End || k.At != at || k.Attrs != nil {
			t.Errorf("End: %v %v", k, ok)
		}
		for range 3 {
			l.Put(runes("<p>"))
			l.Close(at + 1)
			l.Mode(lexer.Plain, "")
			if k, ok := l.Next(); ok || k.At != 0 {
				t.Errorf("behind End: %v", k)
			}
		}
		if wrong := l.Wrong(); len(wrong) != 0 {
			t.Errorf("%v", wrong)
		}
	}
}

// P5.1: behind Close there are no more scalars, and the end stays.
func TestCloseHolds(t *testing.T) {
	l := lexer.New()
	l.Put(runes("ab"))
	l.Close(2)
	l.Put(runes("c"))
	l.Close(5)
	tokens := drain(l)
	if got := show(tokens); got != `"ab" .` || tokens[2].At != 2 {
		t.Errorf("%s, %d", got, tokens[2].At)
	}
}

// P5.1: a token is told as soon as it is known, and no sooner.
func TestToldWhenKnown(t *testing.T) {
	for _, c := range []struct {
		mode        int
		name        string
		parts, told []string
	}{
		{lexer.Data, "", []string{"a", "b"}, []string{`"a"`, `"b"`}},
		{lexer.Data, "", []string{"<", "p", " ", "a", "=", "1", ">"}, []string{"", "", "", "", "", "", `open("p" "a"="1")`}},
		{lexer.Data, "", []string{"<", "1"}, []string{"", `"<1"`}},
		{lexer.Data, "", []string{"<", "<"}, []string{"", `"<"`}},
		{lexer.Data, "", []string{"<", "/", ">", "x"}, []string{"", "", "", `"x"`}},
		{lexer.Data, "", []string{"</", "p/", ">"}, []string{"", "", `close("p")`}},
		{lexer.Data, "", []string{"<!", "-", "-", "-", "-", ">"}, []string{"", "", "", "", "", `comment("")`}},
		{lexer.Data, "", []string{"<!d", "octype", " h", ">"}, []string{"", "", "", `doctype("h")`}},
		{lexer.Data, "", []string{"<!doctypx", ">"}, []string{"", `comment("doctypx")`}},
		{lexer.Data, "", []string{"&", " "}, []string{"", `"& "`}},
		{lexer.Data, "", []string{"&", "a", "m", "p", ";"}, []string{"", "", "", "", `"&"`}},
		{lexer.Data, "", []string{"&no", "t", "i", "n", "x"}, []string{"", "", "", "", `"¬inx"`}},
		{lexer.Data, "", []string{"&acE", ";"}, []string{"", `"` + "\u223e\u0333" + `"`}},
		{lexer.Data, "", []string{"&z", "z", ";"}, []string{`"&z"`, `"z"`, `";"`}},
		{lexer.Data, "", []string{"&#", "x", "4", "1", ";"}, []string{"", "", "", "", `"A"`}},
		{lexer.Data, "", []string{"&#", "x", "g"}, []string{"", "", `"&#xg"`}},
		{lexer.Rcdata, "title", []string{"a<", "b<", "/", "ti", "x"}, []string{`"a"`, `"<b"`, "", "", `"</tix"`}},
		{lexer.Raw, "b", []string{"<", "/", "b", ">"}, []string{"", "", "", `close("b")`}},
		{lexer.Raw, "b", []string{"&", "\x00"}, []string{`"&"`, `"` + "\ufffd" + `"`}},
		{lexer.Plain, "", []string{"<", "&"}, []string{`"<"`, `"&"`}},
	} {
		l := lexer.New()
		l.Mode(c.mode, c.name)
		for i, part := range c.parts {
			l.Put(runes(part))
			if got := show(drain(l)); got != c.told[i] {
				t.Errorf("%q, part %d: %s, want %s", c.parts, i, got, c.told[i])
			}
		}
	}
}

// P5.1
func TestWrongIsToldOnce(t *testing.T) {
	l := lexer.New()
	l.Put(runes("\x00\x00"))
	if wrong := l.Wrong(); len(wrong) != 0 {
		t.Errorf("nothing was met: %v", wrong)
	}
	l.Next()
	if got := showWrong(l.Wrong()); got != "unexpected-null-character@0" {
		t.Error(got)
	}
	if wrong := l.Wrong(); len(wrong) != 0 {
		t.Errorf("%v", wrong)
	}
	l.Next()
	one := l.Wrong()
	l.Put([]api.Rune{{Value: 0, At: 9}})
	l.Close(10)
	drain(l)
	two := l.Wrong()
	if showWrong(one) != "unexpected-null-character@1" || showWrong(two) != "unexpected-null-character@9" {
		t.Errorf("%v %v", one, two)
	}
}

// P5.1: what is handed in is neither kept nor changed.
func TestPutKeepsNothing(t *testing.T) {
	l := lexer.New()
	in := runes("<a b='c'>xyz")
	room := slices.Grow(slices.Clone(in), 50)[:len(in)]
	want := slices.Clone(room[:cap(room)])
	l.Put(room)
	l.Put(room[9:])
	clear(room)
	l.Close(12)
	if got := show(drain(l)); got != `open("a" "b"="c") "xyzxyz" .` {
		t.Error(got)
	}
	if !slices.Equal(room[len(room):cap(room)], want[len(room):]) {
		t.Error("the room behind the list was changed")
	}
}

// P5.1
func TestModes(t *testing.T) {
	for _, c := range []struct {
		mode int
		want string
	}{
		{lexer.Data, `open("b") "&" close("x") .`},
		{lexer.Rcdata, `"<b>&" close("x") .`},
		{lexer.Raw, `"<b>&amp;" close("x") .`},
		{lexer.Plain, `"<b>&amp;</x>" .`},
		{4, `open("b") "&" close("x") .`},
		{-1, `open("b") "&" close("x") .`},
		{math.MaxInt, `open("b") "&" close("x") .`},
		{math.MinInt, `open("b") "&" close("x") .`},
	} {
		for _, ahead := range []int{lexer.Data, lexer.Rcdata, lexer.Raw, lexer.Plain} {
			l := lexer.New()
			l.Mode(ahead, "x")
			l.Mode(c.mode, "x")
			l.Put(runes("<b>&amp;</x>"))
			l.Close(12)
			if got := show(drain(l)); got != c.want {
				t.Errorf("mode %d: %s", c.mode, got)
			}
		}
	}
}

// P5.1: a mode is for the next token on, however much of it was there when it was told.
func TestModeInTheMiddle(t *testing.T) {
	const text = "</></y>&#0;<a b='\x00&zz;' b=1 c>&zz;</x y>z"
	for cut := range len(text) + 1 {
		for _, mode := range []int{lexer.Data, lexer.Rcdata, lexer.Raw, lexer.Plain} {
			for first := range 5 {
				want, wantWrong := modeAfter(text, 0, first, mode)
				got, gotWrong := modeAfter(text, cut, first, mode)
				if got != want || !slices.Equal(inOrder(gotWrong), inOrder(wantWrong)) {
					t.Errorf("cut %d, mode %d behind %d:\n got %s %s\nwant %s %s", cut, mode, first, got, gotWrong, want, wantWrong)
				}
			}
		}
	}
}

// modeAfter: the tokens where, with cut scalars at hand, a Next more than is known is asked for ahead of the mode; with cut 0 none is.
func modeAfter(text string, cut, first, mode int) (string, string) {
	l := lexer.New()
	all := runes(text)
	var tokens []lexer.Token
	next := func() bool {
		k, ok := l.Next()
		if ok {
			tokens = append(tokens, k)
		}
		return ok
	}
	l.Put(all[:cut])
	for len(tokens) < first && next() {
	}
	if len(tokens) == first && cut > 0 {
		probe := lexer.New()
		probe.Put(all[:cut])
		if len(drain(probe)) == first {
			next()
		}
	}
	l.Put(all[cut:])
	for len(tokens) < first && next() {
	}
	l.Mode(mode, "x")
	l.Close(len(text))
	for next() {
	}
	return show(tokens), showWrong(l.Wrong())
}

// P5.1: a scalar may be any int; texts stay UTF-8.
func TestNoScalars(t *testing.T) {
	for _, v := range []int{-1, 0xD800, 0xDFFF, 0x110000, math.MaxInt, math.MinInt, 1<<32 + '<', 1<<32 + 'p', 1<<8 + '&'} {
		l := lexer.New()
		var in []api.Rune
		for _, r := range runes("a<p x='x' x=x><!--x--></x><!doctype x>&x;") {
			if r.Value == 'x' {
				r.Value = v
			}
			in = append(in, r)
		}
		l.Put(in)
		l.Close(len(in))
		tokens := drain(l)
		if len(tokens) < 5 || tokens[len(tokens)-1].Kind != lexer.End {
			t.Errorf("%d: %s", v, show(tokens))
		}
		for _, k := range tokens {
			all := k.Name + k.Data
			for _, a := range k.Attrs {
				all += a.Name + a.Value
			}
			if strings.ToValidUTF8(all, "?") != all {
				t.Errorf("%d: %q", v, all)
			}
			if k.Kind == lexer.Doctype && v != 1<<8+'&' && k.Name != "\ufffd" {
				t.Errorf("%d as a name: %q", v, k.Name)
			}
		}
	}
}

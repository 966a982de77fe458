package decode_test

import (
	"slices"
	"strings"
	"testing"
	"unicode/utf8"

	"beadle/api"
	"beadle/decode"
	"beadle/sniff"
)

const bad = 0xFFFD

func feed(d *decode.Decoder, parts ...string) ([]api.Rune, []api.Diag) {
	var runes []api.Rune
	var wrong []api.Diag
	for _, p := range parts {
		r, w := d.Feed(p)
		runes, wrong = append(runes, r...), append(wrong, w...)
	}
	return runes, wrong
}

func whole(coding, at int, parts ...string) ([]api.Rune, []api.Diag) {
	d := decode.New(coding, at)
	runes, wrong := feed(d, parts...)
	r, w := d.End()
	return append(runes, r...), append(wrong, w...)
}

// badAt: what is told of scalars of which those at some places are bad.
func badAt(places ...int) []api.Diag {
	var out []api.Diag
	for _, at := range places {
		out = append(out, api.Diag{Code: api.BadSequence, At: at})
	}
	return out
}

// P2.1

func TestFeedTellsWhatIsKnown(t *testing.T) {
	steps := []struct {
		part  string
		runes []api.Rune
		wrong []api.Diag
	}{
		{"", nil, nil},
		{"\xc3", nil, nil},
		{"", nil, nil},
		{"\xa4", []api.Rune{{Value: 0xE4, At: 10}}, nil},
		{"a\xf0\x9f", []api.Rune{{Value: 'a', At: 12}}, nil},
		{"\x98", nil, nil},
		{"\x80\xe2", []api.Rune{{Value: 0x1F600, At: 13}}, nil},
		{"\x82", nil, nil},
		{"b", []api.Rune{{Value: bad, At: 17}, {Value: 'b', At: 19}}, badAt(17)},
		{"\xff", []api.Rune{{Value: bad, At: 20}}, badAt(20)},
		{"\xe0\x80", []api.Rune{{Value: bad, At: 21}, {Value: bad, At: 22}}, badAt(21, 22)},
		{"\xc3", nil, nil},
		{"\xc3", []api.Rune{{Value: bad, At: 23}}, badAt(23)},
	}
	d := decode.New(sniff.UTF8, 10)
	for i, s := range steps {
		runes, wrong := d.Feed(s.part)
		if !slices.Equal(runes, s.runes) || !slices.Equal(wrong, s.wrong) {
			t.Errorf("step %d: Feed(%q): %v %v, want %v %v", i, s.part, runes, wrong, s.runes, s.wrong)
		}
	}
}

func TestEndTellsWhatIsLeftAndBeginsAnew(t *testing.T) {
	d := decode.New(sniff.UTF8, 5)
	feed(d, "a\xf0\x9f\x98")
	runes, wrong := d.End()
	if !slices.Equal(runes, []api.Rune{{Value: bad, At: 6}}) || !slices.Equal(wrong, badAt(6)) {
		t.Errorf("End: %v %v", runes, wrong)
	}
	if runes, wrong = d.End(); len(runes)+len(wrong) != 0 {
		t.Errorf("End again: %v %v", runes, wrong)
	}
	runes, wrong = d.Feed("\x80\xc3\xa4")
	if !slices.Equal(runes, []api.Rune{{Value: bad, At: 9}, {Value: 0xE4, At: 10}}) || !slices.Equal(wrong, badAt(9)) {
		t.Errorf("Feed behind End: %v %v", runes, wrong)
	}
}

func TestEndOfWholeBytesTellsNothing(t *testing.T) {
	for _, coding := range []int{sniff.UTF8, sniff.Windows} {
		d := decode.New(coding, 0)
		if runes, wrong := d.End(); len(runes)+len(wrong) != 0 {
			t.Errorf("%d: End: %v %v", coding, runes, wrong)
		}
		d.Feed("a\xc3\xa4")
		if runes, wrong := d.End(); len(runes)+len(wrong) != 0 {
			t.Errorf("%d: End: %v %v", coding, runes, wrong)
		}
		if runes, _ := d.Feed("b"); !slices.Equal(runes, []api.Rune{{Value: 'b', At: 3}}) {
			t.Errorf("%d: behind End: %v", coding, runes)
		}
	}
}

func TestPartsDoNotCount(t *testing.T) {
	texts := []string{
		"a\xc3\xa4\xe2\x82\xac\xf0\x9f\x98\x80",
		"\xf0\x9f\x98\xe2\x82\xc3\xff\xe0\x80\xa0",
		"\xed\xa0\x80\xf4\x90\xf4\x8f\xbf\xbf\xf0\x8f",
		"\x80\x9f\xa0\xff\r\n\x00",
	}
	for _, s := range texts {
		for _, coding := range []int{sniff.UTF8, sniff.Windows} {
			runes, wrong := whole(coding, 3, s)
			same := func(parts ...string) {
				r, w := whole(coding, 3, parts...)
				if !slices.Equal(r, runes) || !slices.Equal(w, wrong) {
					t.Errorf("%q of %d: %v %v, want %v %v", parts, coding, r, w, runes, wrong)
				}
			}
			same(strings.Split(s, "")...)
			for i := range len(s) + 1 {
				for j := i; j <= len(s); j++ {
					same(s[:i], s[i:j], s[j:])
				}
			}
		}
	}
}

func TestPlacesBeginAnywhere(t *testing.T) {
	for _, at := range []int{0, 3, -2, 1 << 30} {
		runes, wrong := whole(sniff.UTF8, at, "a\xff")
		if !slices.Equal(runes, []api.Rune{{Value: 'a', At: at}, {Value: bad, At: at + 1}}) || !slices.Equal(wrong, badAt(at+1)) {
			t.Errorf("from %d: %v %v", at, runes, wrong)
		}
	}
}

func TestOtherNumbersAreWindows(t *testing.T) {
	for _, coding := range []int{sniff.Windows, 0, -1, 3, 1 << 40} {
		runes, wrong := whole(coding, 0, "\xc3\xa4")
		if !slices.Equal(runes, []api.Rune{{Value: 0xC3, At: 0}, {Value: 0xA4, At: 1}}) || len(wrong) != 0 {
			t.Errorf("%d: %v %v", coding, runes, wrong)
		}
	}
}

func TestNilDecoderTellsNothing(t *testing.T) {
	var d *decode.Decoder
	if runes, wrong := d.Feed("a\xff"); len(runes)+len(wrong) != 0 {
		t.Errorf("Feed: %v %v", runes, wrong)
	}
	if runes, wrong := d.End(); len(runes)+len(wrong) != 0 {
		t.Errorf("End: %v %v", runes, wrong)
	}
}

func TestAnswersAreNewMemory(t *testing.T) {
	d := decode.New(sniff.UTF8, 0)
	first, wrong := d.Feed("a\xff")
	second, wrongToo := d.Feed("b\xff")
	_ = append(first, api.Rune{Value: 1, At: 1})
	_ = append(wrong, api.Diag{Code: 1, At: 1})
	first[0].Value, wrong[0].At = 1, 1
	if second[0].Value != 'b' || second[1].Value != bad || wrongToo[0].At != 3 {
		t.Errorf("%v %v", second, wrongToo)
	}
}

// P2.2

func TestWindows(t *testing.T) {
	high := []int{
		0x20AC, 0x81, 0x201A, 0x192, 0x201E, 0x2026, 0x2020, 0x2021, 0x2C6, 0x2030, 0x160, 0x2039, 0x152, 0x8D, 0x17D, 0x8F,
		0x90, 0x2018, 0x2019, 0x201C, 0x201D, 0x2022, 0x2013, 0x2014, 0x2DC, 0x2122, 0x161, 0x203A, 0x153, 0x9D, 0x17E, 0x178,
	}
	for b := range 256 {
		want := b
		if b >= 0x80 && b < 0xA0 {
			want = high[b-0x80]
		}
		runes, wrong := whole(sniff.Windows, 7, string([]byte{byte(b)}))
		if !slices.Equal(runes, []api.Rune{{Value: want, At: 7}}) || len(wrong) != 0 {
			t.Errorf("%x: %v %v", b, runes, wrong)
		}
	}
}

// P2.3

func TestUTF8OfAllScalars(t *testing.T) {
	var bytes []byte
	var want []api.Rune
	for v := range utf8.MaxRune + 1 {
		if v < 0xD800 || v > 0xDFFF {
			want = append(want, api.Rune{Value: int(v), At: len(bytes)})
			bytes = utf8.AppendRune(bytes, v)
		}
	}
	runes, wrong := whole(sniff.UTF8, 0, string(bytes))
	if !slices.Equal(runes, want) || len(wrong) != 0 {
		t.Errorf("%d scalars, %d wrong, want %d", len(runes), len(wrong), len(want))
	}
}

func TestUTF8Bad(t *testing.T) {
	tests := []struct {
		data   string
		values []int
		places []int
	}{
		{"\x80", []int{bad}, []int{0}},
		{"\xc0\x80", []int{bad, bad}, []int{0, 1}},
		{"\xc1\xbf", []int{bad, bad}, []int{0, 1}},
		{"\xc2\x7f", []int{bad, 0x7F}, []int{0, 1}},
		{"\xc2\xc0", []int{bad, bad}, []int{0, 1}},
		{"\xe0\x9f\xbf", []int{bad, bad, bad}, []int{0, 1, 2}},
		{"\xe1\x80\x41", []int{bad, 0x41}, []int{0, 2}},
		{"\xed\xa0\x80", []int{bad, bad, bad}, []int{0, 1, 2}},
		{"\xf0\x8f\xbf\xbf", []int{bad, bad, bad, bad}, []int{0, 1, 2, 3}},
		{"\xf0\x90\x80\xff", []int{bad, bad}, []int{0, 3}},
		{"\xf4\x90\x80\x80", []int{bad, bad, bad, bad}, []int{0, 1, 2, 3}},
		{"\xf5\xfe\xff", []int{bad, bad, bad}, []int{0, 1, 2}},
		{"\xe2\x82\xe2\x82\xac", []int{bad, 0x20AC}, []int{0, 2}},
		{"\xf1\x80\x80", []int{bad}, []int{0}},
		{"\xc3", []int{bad}, []int{0}},
		{"\xef\xbb\xbf", []int{0xFEFF}, []int{0}},
		{"\xef\xbf\xbd", []int{bad}, []int{0}},
	}
	for _, c := range tests {
		var want []api.Rune
		for i, v := range c.values {
			want = append(want, api.Rune{Value: v, At: c.places[i]})
		}
		var places []int
		for i, v := range c.values {
			if v == bad && c.data != "\xef\xbf\xbd" {
				places = append(places, c.places[i])
			}
		}
		runes, wrong := whole(sniff.UTF8, 0, c.data)
		if !slices.Equal(runes, want) || !slices.Equal(wrong, badAt(places...)) {
			t.Errorf("%q: %v %v, want %v %v", c.data, runes, wrong, want, places)
		}
	}
}

// beginnings: all that is ahead of the last byte of a scalar's bytes.
func beginnings() map[string]bool {
	out := map[string]bool{}
	for v := range utf8.MaxRune + 1 {
		s := string(v)
		if v == utf8.RuneError || s != "\ufffd" {
			for i := 1; i < len(s); i++ {
				out[s[:i]] = true
			}
		}
	}
	return out
}

// expected says the same as the document, by looking at whole bytes.
func expected(s string, begins map[string]bool) (runes []api.Rune, wrong []api.Diag) {
	for at := 0; at < len(s); {
		v, n := utf8.DecodeRuneInString(s[at:])
		if v != utf8.RuneError || n != 1 {
			runes = append(runes, api.Rune{Value: int(v), At: at})
			at += n
			continue
		}
		runes = append(runes, api.Rune{Value: bad, At: at})
		wrong = append(wrong, api.Diag{Code: api.BadSequence, At: at})
		n = 1
		for at+n < len(s) && begins[s[at:at+n+1]] {
			n++
		}
		at += n
	}
	return runes, wrong
}

func TestUTF8OfTheEdges(t *testing.T) {
	const edges = "\x00\x41\x7f\x80\x8f\x90\x9f\xa0\xbf\xc0\xc1\xc2\xdf\xe0\xe1\xec\xed\xee\xef\xf0\xf1\xf3\xf4\xf5\xff"
	begins := beginnings()
	var all func(prefix string, more int)
	all = func(prefix string, more int) {
		runes, wrong := whole(sniff.UTF8, 0, prefix)
		r, w := expected(prefix, begins)
		if !slices.Equal(runes, r) || !slices.Equal(wrong, w) {
			t.Fatalf("%q: %v %v, want %v %v", prefix, runes, wrong, r, w)
		}
		if more > 0 {
			for i := range len(edges) {
				all(prefix+edges[i:i+1], more-1)
			}
		}
	}
	all("", 4)
}

package decode_test

import (
	"slices"
	"testing"

	"beadle/api"
	"beadle/decode"
)

// row: the signs of a text as scalars, at the places from at on.
func row(s string, at int) []api.Rune {
	var out []api.Rune
	for i := range len(s) {
		out = append(out, api.Rune{Value: int(s[i]), At: at + i})
	}
	return out
}

// P2.4

func TestPassMakesNewlinesOneForm(t *testing.T) {
	tests := []struct {
		in     string
		out    string
		places []int
	}{
		{"", "", nil},
		{"ab", "ab", []int{0, 1}},
		{"a\nb", "a\nb", []int{0, 1, 2}},
		{"a\rb", "a\nb", []int{0, 1, 2}},
		{"a\r\nb", "a\nb", []int{0, 1, 3}},
		{"\r\r", "\n\n", []int{0, 1}},
		{"\r\r\n", "\n\n", []int{0, 1}},
		{"\r\n\n", "\n\n", []int{0, 2}},
		{"\r\n\r\n", "\n\n", []int{0, 2}},
		{"\n\r", "\n\n", []int{0, 1}},
		{"\ra\n", "\na\n", []int{0, 1, 2}},
		{"\x00\f\v\r", "\x00\f\v\n", []int{0, 1, 2, 3}},
	}
	for _, c := range tests {
		var want []api.Rune
		for i, at := range c.places {
			want = append(want, api.Rune{Value: int(c.out[i]), At: at})
		}
		for i := range len(c.in) + 1 {
			for j := i; j <= len(c.in); j++ {
				var l decode.Lines
				got := l.Pass(row(c.in[:i], 0))
				got = append(got, l.Pass(row(c.in[i:j], i))...)
				got = append(got, l.Pass(row(c.in[j:], j))...)
				if !slices.Equal(got, want) {
					t.Errorf("%q, cut at %d and %d: %v, want %v", c.in, i, j, got, want)
				}
			}
		}
	}
}

func TestPassKeepsOtherValues(t *testing.T) {
	in := []api.Rune{{Value: 0x85, At: 9}, {Value: 0x2028, At: 3}, {Value: -1, At: -7}, {Value: 0x10FFFF, At: 0}, {Value: 0x0D0A, At: 1}}
	var l decode.Lines
	if out := l.Pass(in); !slices.Equal(out, in) {
		t.Errorf("%v", out)
	}
}

func TestPassOfNilLines(t *testing.T) {
	var l *decode.Lines
	in := row("a\r\n\r", 0)
	out := l.Pass(in)
	if !slices.Equal(out, in) {
		t.Errorf("%v", out)
	}
	out[0].Value = 'x'
	if in[0].Value != 'a' {
		t.Error("the answer shares memory with what came in")
	}
	if out := l.Pass(nil); len(out) != 0 {
		t.Errorf("of nothing: %v", out)
	}
}

func TestPassLeavesWhatCameIn(t *testing.T) {
	room := row("a\r\nbc", 0)
	before := slices.Clone(room)
	for _, l := range []*decode.Lines{{}, nil} {
		out := l.Pass(room[:3])
		for i := range out {
			out[i].Value = 'x'
		}
		_ = append(out, row("yyyy", 0)...)
		if !slices.Equal(room, before) {
			t.Errorf("%v", room)
		}
	}
}

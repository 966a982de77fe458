package place_test

import (
	"math"
	"slices"
	"testing"

	"beadle/api"
	"beadle/place"
)

// runesOf: the scalars of a text, with the places that its bytes give them, from a place on.
func runesOf(text string, from int) []api.Rune {
	var out []api.Rune
	for i, r := range text {
		out = append(out, api.Rune{Value: int(r), At: from + i})
	}
	return out
}

// slowAt counts as the promise's words do.
func slowAt(runes []api.Rune, at int) (int, int) {
	line, column := 1, 1
	for _, r := range runes {
		if r.At >= at {
			continue
		}
		column++
		if r.Value == '\n' {
			line++
			column = 1
		}
	}
	return line, column
}

// P3.1
func TestAt(t *testing.T) {
	table := place.New(runesOf("aä\n\nb\r\tc\n", 0))
	for _, c := range []struct{ at, line, column int }{
		{math.MinInt, 1, 1}, {-1, 1, 1}, {0, 1, 1}, {1, 1, 2},
		{2, 1, 3}, // within the ä, which stands ahead of it
		{3, 1, 3}, {4, 2, 1}, {5, 3, 1}, {6, 3, 2},
		{7, 3, 3}, {8, 3, 4}, {9, 3, 5},
		{10, 4, 1}, {11, 4, 1}, {math.MaxInt, 4, 1},
	} {
		if line, column := table.At(c.at); line != c.line || column != c.column {
			t.Errorf("At(%d): %d, %d; want %d, %d", c.at, line, column, c.line, c.column)
		}
	}
}

// P3.1
func TestAtCounts(t *testing.T) {
	for _, text := range []string{"", "\n", "a", "\n\n\n", "abc\ndef", "\na\n", "€\n😀x\n\nä", "a\u2028b\u0085c\vd\fe\rf\ng"} {
		for _, from := range []int{-4, 0, 3} {
			runes := runesOf(text, from)
			table := place.New(runes)
			for at := from - 3; at < from+len(text)+3; at++ {
				line, column := table.At(at)
				wantLine, wantColumn := slowAt(runes, at)
				if line != wantLine || column != wantColumn {
					t.Errorf("%q from %d: At(%d): %d, %d; want %d, %d", text, from, at, line, column, wantLine, wantColumn)
				}
			}
		}
	}
}

// P3.1: places may leave bytes out, as those of a carriage return and its newline do.
func TestAtGaps(t *testing.T) {
	runes := []api.Rune{{Value: 'a', At: 3}, {Value: '\n', At: 10}, {Value: 'b', At: 12}, {Value: 'c', At: 40}}
	table := place.New(runes)
	for at := range 50 {
		line, column := table.At(at)
		wantLine, wantColumn := slowAt(runes, at)
		if line != wantLine || column != wantColumn {
			t.Errorf("At(%d): %d, %d; want %d, %d", at, line, column, wantLine, wantColumn)
		}
	}
}

// P3.1
func TestTableOfNothing(t *testing.T) {
	var none *place.Table
	for _, at := range []int{-1, 0, 7} {
		if line, column := none.At(at); line != 0 || column != 0 {
			t.Errorf("nil: At(%d): %d, %d", at, line, column)
		}
	}
	for _, runes := range [][]api.Rune{nil, {}} {
		table := place.New(runes)
		if table == nil {
			t.Fatal("New answers nil")
		}
		if line, column := table.At(5); line != 1 || column != 1 {
			t.Errorf("no scalars: At(5): %d, %d", line, column)
		}
	}
}

// A table keeps nothing of the list that it is made of, and is not changed by being asked.
func TestTableIsItsOwn(t *testing.T) {
	runes := runesOf("ab\ncd\ne", 0)
	before := slices.Clone(runes)
	table := place.New(runes)
	if !slices.Equal(runes, before) {
		t.Error("New changed its list")
	}
	for i := range runes {
		runes[i] = api.Rune{Value: 'x', At: 100}
	}
	for range 2 {
		for _, at := range []int{7, 0, 3, 5} {
			line, column := table.At(at)
			wantLine, wantColumn := slowAt(before, at)
			if line != wantLine || column != wantColumn {
				t.Errorf("At(%d): %d, %d; want %d, %d", at, line, column, wantLine, wantColumn)
			}
		}
	}
}

// P1: lists whose places do not rise tell nothing of worth, but break nothing.
func TestPlacesThatFall(t *testing.T) {
	table := place.New([]api.Rune{{Value: '\n', At: 9}, {Value: 'a', At: 2}, {Value: '\n', At: 2}, {Value: 'b', At: -7}})
	for at := -10; at < 12; at++ {
		if line, column := table.At(at); line < 1 || column < 1 {
			t.Errorf("At(%d): %d, %d", at, line, column)
		}
	}
}

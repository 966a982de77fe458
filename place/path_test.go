package place_test

import (
	"math"
	"slices"
	"strings"
	"testing"

	"beadle/place"
)

const (
	nines    = "999999999999999999" // eighteen digits, the most that count
	nineteen = "1000000000000000000"
)

// P3.2
func TestPath(t *testing.T) {
	for _, c := range []struct {
		steps []int
		path  string
	}{
		{nil, "/"},
		{[]int{}, "/"},
		{[]int{0}, "/0"},
		{[]int{0, 12}, "/0/12"},
		{[]int{7, 0, 0, 305}, "/7/0/0/305"},
		{[]int{math.MaxInt}, "/9223372036854775807"},
		{[]int{-1}, ""},
		{[]int{3, -1, 4}, ""},
		{[]int{1, 2, math.MinInt}, ""},
	} {
		before := slices.Clone(c.steps)
		if path := place.Path(c.steps); path != c.path {
			t.Errorf("Path(%v): %q; want %q", c.steps, path, c.path)
		}
		if !slices.Equal(c.steps, before) {
			t.Errorf("Path changed %v", before)
		}
	}
}

// P3.2
func TestSteps(t *testing.T) {
	for _, c := range []struct {
		path  string
		steps []int
	}{
		{"/", nil},
		{"/0", []int{0}},
		{"/10", []int{10}},
		{"/0/12", []int{0, 12}},
		{"/1/2/3/0/100", []int{1, 2, 3, 0, 100}},
		{"/" + nines, []int{999999999999999999}},
		{"/1/" + nines + "/2", []int{1, 999999999999999999, 2}},
	} {
		steps, ok := place.Steps(c.path)
		if !ok || !slices.Equal(steps, c.steps) {
			t.Errorf("Steps(%q): %v, %t; want %v", c.path, steps, ok, c.steps)
		}
		if back := place.Path(steps); back != c.path {
			t.Errorf("%q: back as %q", c.path, back)
		}
	}
}

// P3.2
func TestStepsOfNoPath(t *testing.T) {
	for _, path := range []string{
		"", "0", "1/2", "//", "/0/", "//0", "/0//1", "/00", "/01", "/1/00", "/1/007",
		"/-1", "/-0", "/+1", "/1 ", " /1", "/ 1", "/a", "/1a", "/1/x", "/1:", "/1/ /2", "/1.0", "/1_0", "/0x1", "/1e3",
		"/1\x00", "/\x00", "/\xff", "/١", "/1\n", "\\1",
		"/" + nineteen, "/9223372036854775807", "/9223372036854775808", "/1/" + nineteen, "/" + strings.Repeat("9", 400), "/0" + nines,
	} {
		if steps, ok := place.Steps(path); ok || len(steps) != 0 {
			t.Errorf("Steps(%q): %v, %t", path, steps, ok)
		}
	}
}

// Two answers share no memory.
func TestStepsAreNew(t *testing.T) {
	one, _ := place.Steps("/1/2/3")
	two, _ := place.Steps("/1/2/3")
	one[0] = 9
	if three, _ := place.Steps("/1/2/3"); two[0] != 1 || three[0] != 1 {
		t.Error("answers share memory")
	}
}

// Paths of many steps are read back.
func TestLongPath(t *testing.T) {
	steps := make([]int, 5000)
	for i := range steps {
		steps[i] = i * i
	}
	back, ok := place.Steps(place.Path(steps))
	if !ok || !slices.Equal(back, steps) {
		t.Error("a long path is not read back")
	}
}

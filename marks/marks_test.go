package marks_test

import (
	"math"
	"strconv"
	"strings"
	"testing"

	"beadle/api"
	"beadle/marks"
)

// attrs of a text such as "id=1 class=x".
func attrs(text string) []api.Attr {
	var all []api.Attr
	for _, word := range strings.Fields(text) {
		name, value, _ := strings.Cut(word, "=")
		all = append(all, api.Attr{Name: name, Value: value})
	}
	return all
}

func entry(node int, name, of string) marks.Entry {
	return marks.Entry{Node: node, Name: name, Attrs: attrs(of)}
}

// of is a list by Lay, so that nothing is taken away: of "b i | b" the nodes are numbered by their places, | is a marker.
func of(text string) *marks.List {
	var l marks.List
	for i, n := range strings.Fields(text) {
		e := marks.Entry{Node: i, Name: n}
		if n == "|" {
			e = marks.Entry{Node: -1}
		}
		l.Lay(i, e)
	}
	return &l
}

// shown tells a list: each entry's name with its node and attributes, | for a marker that is zero else.
func shown(list []marks.Entry) string {
	var all []string
	for _, e := range list {
		word := e.Name + strconv.Itoa(e.Node)
		if e.Node == -1 && e.Name == "" && len(e.Attrs) == 0 {
			word = "|"
		}
		for _, a := range e.Attrs {
			word += "," + a.Name + "=" + a.Value
		}
		all = append(all, word)
	}
	return strings.Join(all, " ")
}

func wantList(t *testing.T, what string, l *marks.List, want string) {
	t.Helper()
	if got := shown(l.Entries()); got != want {
		t.Errorf("%s: %s, want %s", what, got, want)
	}
}

// P10.1
func TestAlike(t *testing.T) {
	rows := []struct {
		a, ofA, b, ofB string
		want           bool
	}{
		{"b", "", "b", "", true}, {"b", "", "i", "", false}, {"", "", "", "", true}, {"b", "", "B", "", false},
		{"b", "x=1", "b", "x=1", true}, {"b", "x=1", "b", "x=2", false}, {"b", "x=1", "b", "y=1", false},
		{"b", "x=1", "i", "x=1", false}, {"b", "x=1", "b", "", false}, {"b", "", "b", "x=1", false},
		{"b", "x=1 y=2", "b", "y=2 x=1", true}, {"b", "x=1 y=2", "b", "x=2 y=1", false},
		{"b", "x=1 y=2", "b", "x=1", false}, {"b", "x=1", "b", "x=1 y=2", false},
		{"b", "x= y=", "b", "y= x=", true}, {"b", "x", "b", "x=", true}, {"b", "x=1", "b", "X=1", false},
		{"font", "a=1 b=2 c=3", "font", "c=3 a=1 b=2", true}, {"font", "a=1 b=2 c=3", "font", "c=3 a=1 d=2", false},
	}
	for _, r := range rows {
		a, b := entry(1, r.a, r.ofA), entry(2, r.b, r.ofB)
		if got := marks.Alike(a, b); got != r.want {
			t.Errorf("%s: %v", shown([]marks.Entry{a, b}), got)
		}
		if got := marks.Alike(b, a); got != r.want {
			t.Errorf("%s: %v", shown([]marks.Entry{b, a}), got)
		}
	}
	if !marks.Alike(marks.Entry{Node: -1}, marks.Entry{Node: 5, Attrs: []api.Attr{}}) {
		t.Error("Alike looks at more than names and attributes")
	}
}

// P10.1: lists of all lengths, so long that they aren't gone through.
func TestAlikeOfMany(t *testing.T) {
	for n := range 40 {
		var up, down []api.Attr
		for i := range n {
			a := api.Attr{Name: "n" + strconv.Itoa(i), Value: strconv.Itoa(i * i)}
			up, down = append(up, a), append([]api.Attr{a}, down...)
		}
		a, b := marks.Entry{Name: "b", Attrs: up}, marks.Entry{Name: "b", Attrs: down}
		if !marks.Alike(a, b) || !marks.Alike(b, a) {
			t.Errorf("%d attributes aren't alike", n)
		}
		for i := range n {
			other := marks.Entry{Name: "b", Attrs: append([]api.Attr(nil), down...)}
			other.Attrs[i].Value += "x"
			if marks.Alike(a, other) || marks.Alike(other, a) {
				t.Errorf("%d attributes, another value at %d", n, i)
			}
			other.Attrs[i] = api.Attr{Name: "other", Value: down[i].Value}
			if marks.Alike(a, other) || marks.Alike(other, a) {
				t.Errorf("%d attributes, another name at %d", n, i)
			}
		}
	}
}

// P10.1
func TestZeroListIsEmpty(t *testing.T) {
	var l marks.List
	if len(l.Entries()) != 0 || l.Last("") != -1 || l.Find(0) != -1 || l.Cut(0) || l.Swap(0, marks.Entry{}) || l.Rest([]int{0}) != 0 {
		t.Error("a zero list isn't empty")
	}
	l.Clear()
	if len(l.Entries()) != 0 || !l.Lay(0, entry(3, "b", "")) {
		t.Error("cleared")
	}
	wantList(t, "laid", &l, "b3")
}

// P10.1
func TestAdd(t *testing.T) {
	type list = []marks.Entry
	mark := marks.Entry{Node: -1}
	rows := []struct {
		add  list
		want string
	}{
		{list{entry(0, "b", "")}, "b0"},
		{list{entry(0, "b", ""), entry(1, "b", ""), entry(2, "b", "")}, "b0 b1 b2"},
		{list{entry(0, "b", ""), entry(1, "b", ""), entry(2, "b", ""), entry(3, "b", "")}, "b1 b2 b3"}, // the chapter's example
		{list{entry(0, "b", ""), entry(1, "b", ""), entry(2, "b", ""), entry(3, "b", ""), entry(4, "b", "")}, "b2 b3 b4"},
		{list{entry(0, "i", ""), entry(1, "b", ""), entry(2, "i", ""), entry(3, "b", ""), entry(4, "u", ""), entry(5, "b", ""), entry(6, "b", "")}, "i0 i2 b3 u4 b5 b6"},
		{list{entry(0, "b", "x=1"), entry(1, "b", "x=1"), entry(2, "b", "x=1"), entry(3, "b", "x=2")}, "b0,x=1 b1,x=1 b2,x=1 b3,x=2"},
		{list{entry(0, "b", "x=1 y=2"), entry(1, "b", "y=2 x=1"), entry(2, "b", "x=1 y=2"), entry(3, "b", "y=2 x=1")}, "b1,y=2,x=1 b2,x=1,y=2 b3,y=2,x=1"},
		{list{entry(0, "b", ""), entry(1, "b", "x=1"), entry(2, "b", ""), entry(3, "b", "x=2"), entry(4, "b", ""), entry(5, "b", "")}, "b1,x=1 b2 b3,x=2 b4 b5"},
		{list{entry(0, "b", ""), entry(1, "b", ""), entry(2, "b", ""), mark, entry(3, "b", "")}, "b0 b1 b2 | b3"},
		{list{entry(0, "b", ""), mark, entry(1, "b", ""), entry(2, "b", ""), entry(3, "b", ""), entry(4, "b", "")}, "b0 | b2 b3 b4"},
		{list{entry(0, "b", ""), entry(1, "b", ""), mark, entry(2, "b", ""), entry(3, "b", "")}, "b0 b1 | b2 b3"},
		{list{mark, mark, mark, mark}, "| | | |"},
		{list{entry(7, "b", ""), entry(7, "b", ""), entry(7, "b", ""), entry(7, "b", "")}, "b7 b7 b7"},
		{list{entry(-2, "b", ""), entry(-2, "b", ""), entry(-2, "b", ""), entry(math.MinInt, "b", "")}, "b-2 b-2 b" + strconv.Itoa(math.MinInt)},
	}
	for i, r := range rows {
		var l marks.List
		for _, e := range r.add {
			l.Add(e)
		}
		wantList(t, "row "+strconv.Itoa(i), &l, r.want)
	}
}

// P10.1: of more than three that are alike (laid, not added) one goes, the first.
func TestAddToMany(t *testing.T) {
	l := of("b b i b b b")
	l.Add(entry(9, "b", ""))
	wantList(t, "added", l, "b1 i2 b3 b4 b5 b9")
	l.Add(entry(8, "b", ""))
	wantList(t, "added again", l, "i2 b3 b4 b5 b9 b8")
}

// P10.1: an entry with the Node -1 is a marker, whatever else it has.
func TestAddedMarker(t *testing.T) {
	l := of("b b b")
	l.Add(entry(-1, "b", "x=1"))
	wantList(t, "added", l, "b0 b1 b2 b-1,x=1")
	if l.Last("b") != -1 || l.Find(-1) != -1 || l.Rest(nil) != 4 {
		t.Error("it is no marker")
	}
	for i := range 4 {
		l.Add(entry(10+i, "b", "x=1"))
	}
	wantList(t, "behind it", l, "b0 b1 b2 b-1,x=1 b11,x=1 b12,x=1 b13,x=1")
	l.Clear()
	wantList(t, "cleared", l, "b0 b1 b2")
}

// P10.1
func TestMarkAndClear(t *testing.T) {
	var l marks.List
	l.Mark()
	wantList(t, "marked", &l, "|")
	l.Mark()
	wantList(t, "marked", &l, "| |")
	rows := []struct{ list, want string }{
		{"", ""}, {"b i", ""}, {"b |", "b0"}, {"b | i", "b0"}, {"b | i | u s", "b0 | i2"}, {"b | i |", "b0 | i2"}, {"|", ""}, {"| |", "|"}, {"| b", ""},
	}
	for _, r := range rows {
		l := of(r.list)
		l.Clear()
		wantList(t, r.list, l, r.want)
		l.Add(entry(99, "x", ""))
		wantList(t, r.list+", then one more", l, strings.TrimSpace(r.want+" x99"))
	}
}

// P10.2
func TestLast(t *testing.T) {
	rows := []struct {
		list, name string
		want       int
	}{
		{"b i b u", "b", 2}, {"b i b u", "u", 3}, {"b i b u", "i", 1}, {"b i b u", "s", -1},
		{"b | i", "b", -1}, {"b | i", "i", 2}, {"b | i b", "b", 3}, {"b | i | u", "i", -1}, {"b |", "b", -1},
		{"", "b", -1}, {"|", "", -1}, {"b", "", -1}, {"b i", "b", 0},
	}
	for _, r := range rows {
		if got := of(r.list).Last(r.name); got != r.want {
			t.Errorf("%s: Last(%s): %d, want %d", r.list, r.name, got, r.want)
		}
	}
}

// P10.2
func TestFind(t *testing.T) {
	var l marks.List
	for i, n := range []int{7, 0, 7, -1, 3, math.MinInt, -2} {
		l.Lay(i, marks.Entry{Node: n, Name: "b"})
	}
	rows := []struct{ node, want int }{{7, 2}, {0, 1}, {-1, -1}, {3, 4}, {math.MinInt, 5}, {-2, 6}, {1, -1}, {math.MaxInt, -1}}
	for _, r := range rows {
		if got := l.Find(r.node); got != r.want {
			t.Errorf("Find(%d): %d, want %d", r.node, got, r.want)
		}
	}
}

// P10.2
func TestCutLaySwap(t *testing.T) {
	rows := []struct {
		at             int
		cut, lay, swap string // empty where there is no such place
	}{
		{0, "| i2", "x9,k=v b0 | i2", "x9,k=v | i2"},
		{1, "b0 i2", "b0 x9,k=v | i2", "b0 x9,k=v i2"},
		{2, "b0 |", "b0 | x9,k=v i2", "b0 | x9,k=v"},
		{3, "", "b0 | i2 x9,k=v", ""},
		{4, "", "", ""}, {-1, "", "", ""}, {math.MaxInt, "", "", ""}, {math.MinInt, "", "", ""},
	}
	for _, r := range rows {
		calls := []struct {
			what, want string
			do         func(l *marks.List) bool
		}{
			{"Cut", r.cut, func(l *marks.List) bool { return l.Cut(r.at) }},
			{"Lay", r.lay, func(l *marks.List) bool { return l.Lay(r.at, entry(9, "x", "k=v")) }},
			{"Swap", r.swap, func(l *marks.List) bool { return l.Swap(r.at, entry(9, "x", "k=v")) }},
		}
		for _, c := range calls {
			l := of("b | i")
			if ok := c.do(l); ok != (c.want != "") {
				t.Errorf("%s at %d: %v", c.what, r.at, ok)
			}
			if c.want == "" {
				c.want = "b0 | i2"
			}
			wantList(t, c.what+" at "+strconv.Itoa(r.at), l, c.want)
		}
	}
}

// P10.2: what is laid or swapped is thinned out by nothing, and may be a marker.
func TestLaidAndSwappedMarkers(t *testing.T) {
	l := of("b b b b b")
	wantList(t, "laid", l, "b0 b1 b2 b3 b4")
	l.Lay(2, marks.Entry{Node: -1})
	if l.Last("b") != 5 || !l.Cut(5) || !l.Cut(4) || !l.Cut(3) || l.Last("b") != -1 {
		t.Error("a laid marker")
	}
	l.Swap(1, marks.Entry{Node: -1})
	wantList(t, "swapped", l, "b0 | |")
	l.Swap(2, entry(4, "b", ""))
	l.Swap(1, entry(5, "b", ""))
	if l.Last("b") != 2 {
		t.Error("a marker that was swapped away")
	}
	l.Clear()
	wantList(t, "cleared", l, "")
}

// P10.2
func TestNilList(t *testing.T) {
	var l *marks.List
	l.Add(entry(1, "b", ""))
	l.Mark()
	l.Clear()
	if len(l.Entries()) != 0 || l.Last("b") != -1 || l.Find(1) != -1 || l.Cut(0) || l.Lay(0, entry(1, "b", "")) || l.Swap(0, entry(1, "b", "")) {
		t.Error("a nil list")
	}
	if l.Rest(nil) != 0 || l.Rest([]int{1, -1}) != 0 {
		t.Error("Rest of a nil list")
	}
}

// P10.3
func TestRest(t *testing.T) {
	rows := []struct {
		list string
		open []int
		want int
	}{
		{"", nil, 0}, {"", []int{0, 1}, 0},
		{"b i u", nil, 0}, {"b i u", []int{5, -1, math.MaxInt}, 0},
		{"b i u", []int{0}, 1}, {"b i u", []int{1}, 2}, {"b i u", []int{2}, 3}, {"b i u", []int{0, 1, 2}, 3}, {"b i u", []int{1, 0}, 2},
		{"b i u |", nil, 4}, {"b | i u", nil, 2}, {"b | i u", []int{0}, 2}, {"b | i u", []int{2}, 3}, {"b | i u", []int{3}, 4},
		{"|", nil, 1}, {"| b", nil, 1}, {"b", []int{0}, 1}, {"b", []int{1}, 0},
	}
	for _, r := range rows {
		l := of(r.list)
		before := shown(l.Entries())
		if got := l.Rest(r.open); got != r.want {
			t.Errorf("%s: Rest(%v): %d, want %d", r.list, r.open, got, r.want)
		}
		wantList(t, "after Rest", l, before)
	}
}

// P10.3: so many are open that they aren't gone through for each.
func TestRestOfMany(t *testing.T) {
	for n := range 30 {
		l := of(strings.Repeat("b ", n))
		for last := range n {
			var open []int
			for i := range last + 1 {
				open = append([]int{i}, append(open, 100+i)...)
			}
			if got := l.Rest(open); got != last+1 {
				t.Errorf("%d entries, open up to %d: %d", n, last, got)
			}
		}
	}
}

// P10.1, P10.2: what is handed in isn't kept, nor changed; an answer is new.
func TestMemory(t *testing.T) {
	room := attrs("x=1 y=2 z=3")
	given := marks.Entry{Node: 1, Name: "b", Attrs: room[:1]}
	var l marks.List
	l.Add(given)
	l.Lay(0, given)
	l.Lay(0, entry(0, "u", ""))
	l.Swap(0, given)
	room[0].Value = "changed"
	wantList(t, "handed in", &l, "b1,x=1 b1,x=1 b1,x=1")
	if room[1].Name != "y" || room[2].Name != "z" {
		t.Errorf("the room behind the list: %v", room)
	}
	one, two := l.Entries(), l.Entries()
	one[0].Attrs[0].Value = "other"
	one[1].Name = "other"
	_ = append(one[2].Attrs, api.Attr{Name: "more"})
	if shown(two) != "b1,x=1 b1,x=1 b1,x=1" {
		t.Errorf("another answer: %s", shown(two))
	}
	wantList(t, "answered", &l, "b1,x=1 b1,x=1 b1,x=1")
	open := []int{5, 1, 4}
	l.Rest(open[:2])
	if open[0] != 5 || open[1] != 1 || open[2] != 4 {
		t.Errorf("what is open was changed: %v", open)
	}
}

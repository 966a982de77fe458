package query_test

import (
	"math/rand"
	"slices"
	"strings"
	"testing"

	"beadle/dom"
	"beadle/query"
)

// anyTree: nodes of all kinds put anywhere, some of them nowhere.
func anyTree(r *rand.Rand) *dom.Tree {
	d := dom.New()
	for range r.Intn(20) {
		kind := []int{dom.Doctype, dom.Element, dom.Element, dom.Element, dom.Text, dom.Comment}[r.Intn(6)]
		n := d.Make(dom.Node{Kind: kind, Name: anyName(r), Data: anyName(r)})
		d.Put(n, r.Intn(n+1), -1)
		d.Put(r.Intn(n+1), r.Intn(n+1), -1)
	}
	return d
}

func anyName(r *rand.Rand) string {
	return []string{"a", "b", "c", "d", ""}[r.Intn(5)]
}

// standsUnder tells how many steps a node stands below another one; 0: it doesn't.
func standsUnder(d *dom.Tree, n, over int) int {
	for steps := 1; n >= 0; steps++ {
		n = d.Parent(n)
		if n == over && n >= 0 {
			return steps
		}
	}
	return 0
}

// before: does m come ahead of n, both of which stand under the same one?
func before(d *dom.Tree, top, m, n int) int {
	return slices.Compare(way(d, top, m), way(d, top, n))
}

// way down from the top to a node.
func way(d *dom.Tree, top, n int) []int {
	if n == top {
		return nil
	}
	return append(way(d, top, d.Parent(n)), slices.Index(d.Kids(d.Parent(n)), n))
}

func slowUnder(d *dom.Tree, top, kind int, names []string) []int {
	var out []int
	for n := range d.Len() {
		node, _ := d.Get(n)
		if node.Kind == kind && standsUnder(d, n, top) > 0 && (len(names) == 0 || slices.Contains(names, node.Name)) {
			out = append(out, n)
		}
	}
	slices.SortFunc(out, func(m, n int) int { return before(d, top, m, n) })
	return out
}

func slowText(d *dom.Tree, top int) string {
	var out string
	if node, _ := d.Get(top); node.Kind == dom.Text {
		out = node.Data
	}
	for _, n := range slowUnder(d, top, dom.Text, nil) {
		node, _ := d.Get(n)
		out += node.Data
	}
	return out
}

func slowAround(d *dom.Tree, n int, names []string) int {
	best, least := -1, 0
	for m := range d.Len() {
		node, _ := d.Get(m)
		steps := standsUnder(d, n, m)
		if node.Kind == dom.Element && slices.Contains(names, node.Name) && steps > 0 && (best < 0 || steps < least) {
			best, least = m, steps
		}
	}
	return best
}

// P13.1, P13.2
func TestAsTheSlowOne(t *testing.T) {
	for seed := range int64(1500) {
		r := rand.New(rand.NewSource(seed))
		d := anyTree(r)
		var names []string
		for range r.Intn(4) {
			names = append(names, anyName(r))
		}
		wantList(t, "Elements", query.Elements(d), slowUnder(d, 0, dom.Element, nil)...)
		for n := -1; n <= d.Len(); n++ {
			wantList(t, "Under", query.Under(d, n, names...), slowUnder(d, n, dom.Element, names)...)
			if got, want := query.Text(d, n), slowText(d, n); got != want {
				t.Errorf("Text: %q, want %q", got, want)
			}
			if got, want := query.Around(d, n, names...), slowAround(d, n, names); got != want {
				t.Errorf("Around: %d, want %d", got, want)
			}
		}
		if t.Failed() {
			t.Fatalf("seed %d", seed)
		}
	}
}

// slowStrip replaces until nothing is to be replaced.
func slowStrip(s string) string {
	for _, c := range []string{"\t", "\n", "\f", "\r"} {
		s = strings.ReplaceAll(s, c, " ")
	}
	for strings.Contains(s, "  ") {
		s = strings.ReplaceAll(s, "  ", " ")
	}
	return strings.TrimSuffix(strings.TrimPrefix(s, " "), " ")
}

// P13.3
func TestTextsAsTheSlowOne(t *testing.T) {
	for seed := range int64(3000) {
		r := rand.New(rand.NewSource(seed))
		var b []byte
		for range r.Intn(16) {
			b = append(b, "ab\xc3\xa0\xff\x0b\x00 \t\n\f\r "[r.Intn(13)])
		}
		s := string(b)
		if got := query.Strip(s); got != slowStrip(s) {
			t.Errorf("Strip of %q: %q", s, got)
		}
		var want []string
		for _, part := range strings.Split(slowStrip(s), " ") {
			if part != "" && !slices.Contains(want, part) {
				want = append(want, part)
			}
		}
		if got := query.Tokens(s); !slices.Equal(got, want) {
			t.Errorf("Tokens of %q: %q", s, got)
		}
	}
}

// Rules: what is handed in and what is answered is not kept.
func TestNothingIsShared(t *testing.T) {
	d := read(t, list)
	names := append(make([]string, 0, 4), "li")
	query.Under(d, 0, names...)[0] = 99
	query.Elements(d)[0] = 99
	query.Around(d, 10, names...)
	query.Tokens("a b")[0] = "c"
	if names[:2][1] != "" || names[0] != "li" {
		t.Error("a list that was handed in is changed")
	}
	wantList(t, "li", query.Under(d, 0, names...), 4, 9, 13)
	wantList(t, "all", query.Elements(d), 3, 4, 6, 9, 13, 14)
	if got := query.Tokens("a b"); !slices.Equal(got, []string{"a", "b"}) {
		t.Errorf("%q", got)
	}
}

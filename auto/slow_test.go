package auto_test

import (
	"math/rand"
	"slices"
	"strings"
	"testing"

	"beadle/api"
	"beadle/auto"
	"beadle/expr"
)

// slowEmpty: does an expression take the empty row?
func slowEmpty(e expr.Expr) bool {
	empty := 0
	for _, k := range e.Kids {
		if slowEmpty(k) {
			empty++
		}
	}
	switch e.Kind {
	case expr.Empty, expr.Star, expr.Maybe:
		return true
	case expr.Seq, expr.All, expr.Plus:
		return empty == len(e.Kids)
	}
	return empty > 0
}

// slowPasses: does an item pass the test that an expression is?
func slowPasses(e expr.Expr, i auto.Item) bool {
	switch e.Kind {
	case expr.Text:
		return i.Text
	case expr.Name:
		return !i.Text && i.Name == e.Word
	case expr.Category:
		return !i.Text && slices.Contains(i.Cats, e.Word)
	}
	return false
}

// slowFirst: the tests by which a row may begin.
func slowFirst(e expr.Expr) []string {
	if len(e.Kids) == 0 && e.Kind != expr.Empty {
		return []string{expr.Show(e)}
	}
	var out []string
	for _, k := range e.Kids {
		out = append(out, slowFirst(k)...)
		if e.Kind == expr.Seq && !slowEmpty(k) {
			break
		}
	}
	return out
}

// joined: one behind the other.
func joined(kids ...expr.Expr) expr.Expr {
	return expr.Expr{Kind: expr.Seq, Kids: kids}
}

// slowBehind: what may be left of an expression behind one item, by each way of reading it. Alls are not spread.
func slowBehind(e expr.Expr, i auto.Item) []expr.Expr {
	var out []expr.Expr
	switch e.Kind {
	case expr.Seq:
		for n, k := range e.Kids {
			for _, left := range slowBehind(k, i) {
				out = append(out, joined(append([]expr.Expr{left}, e.Kids[n+1:]...)...))
			}
			if !slowEmpty(k) {
				break
			}
		}
	case expr.Alt, expr.Maybe:
		for _, k := range e.Kids {
			out = append(out, slowBehind(k, i)...)
		}
	case expr.All:
		for n, k := range e.Kids {
			others := slices.Concat(e.Kids[:n], e.Kids[n+1:])
			for _, left := range slowBehind(k, i) {
				out = append(out, joined(left, expr.Expr{Kind: expr.All, Kids: others}))
			}
		}
	case expr.Star, expr.Plus:
		for _, left := range slowBehind(e.Kids[0], i) {
			out = append(out, joined(left, expr.Expr{Kind: expr.Star, Kids: e.Kids}))
		}
	default:
		if slowPasses(e, i) {
			out = append(out, expr.Expr{})
		}
	}
	return out
}

// slim: without what is nothing, so that what is the same looks the same.
func slim(e expr.Expr) expr.Expr {
	var kids []expr.Expr
	for _, k := range e.Kids {
		k = slim(k)
		if k.Kind == expr.Seq && e.Kind == expr.Seq {
			kids = append(kids, k.Kids...)
		} else if k.Kind != expr.Empty || e.Kind != expr.Seq && e.Kind != expr.All {
			kids = append(kids, k)
		}
	}
	if e.Kind == expr.Seq || e.Kind == expr.All {
		if len(kids) == 0 {
			return expr.Expr{}
		}
		if len(kids) == 1 {
			return kids[0]
		}
	}
	return expr.Expr{Kind: e.Kind, Word: e.Word, Kids: kids}
}

// slowWalk: how many items are a beginning, and what may be left behind these.
func slowWalk(e expr.Expr, items []auto.Item) (int, []expr.Expr) {
	lefts := []expr.Expr{e}
	for n, item := range items {
		seen := map[string]expr.Expr{}
		for _, left := range lefts {
			for _, l := range slowBehind(left, item) {
				l = slim(l)
				seen[expr.Show(l)] = l
			}
		}
		if len(seen) == 0 {
			return n, lefts
		}
		lefts = nil
		for _, l := range seen {
			lefts = append(lefts, l)
		}
	}
	return len(items), lefts
}

func randomExpr(r *rand.Rand, deep int) string {
	n := r.Intn(10)
	if deep <= 0 {
		n = r.Intn(4)
	}
	kids := func(between string) string {
		var out []string
		for range 2 + r.Intn(2) {
			out = append(out, randomExpr(r, deep-1))
		}
		return "(" + strings.Join(out, between) + ")"
	}
	switch n {
	case 0, 1:
		return []string{"a", "b", "c"}[r.Intn(3)]
	case 2:
		return []string{"@x", "@y"}[r.Intn(2)]
	case 3:
		return []string{"#text", "()", "@a"}[r.Intn(3)]
	case 4, 5:
		return kids(" ")
	case 6:
		return kids("|")
	case 7:
		return kids("&")
	}
	return "(" + randomExpr(r, deep-1) + ")" + []string{"*", "+", "?"}[r.Intn(3)]
}

func randomItem(r *rand.Rand) auto.Item {
	i := auto.Item{Name: []string{"a", "b", "c", "d", "@x", "#text"}[r.Intn(25)/5]}
	for _, cat := range []string{"x", "y", "a", "z"} {
		if r.Intn(4) == 0 {
			i.Cats = append(i.Cats, cat)
		}
	}
	i.Text = r.Intn(8) == 0
	return i
}

// randomRow: mostly of items that can stand where they are.
func randomRow(r *rand.Rand, e expr.Expr) []auto.Item {
	var out []auto.Item
	for range r.Intn(12) {
		item := randomItem(r)
		for range 6 {
			if n, _ := slowWalk(e, append(slices.Clone(out), item)); n == len(out)+1 {
				break
			}
			item = randomItem(r)
		}
		out = append(out, item)
	}
	return out
}

// P15.1, P15.2, P15.3: beside what is left of an expression item by item, each row twice, behind others.
func TestSlow(t *testing.T) {
	r := rand.New(rand.NewSource(151))
	far := 0
	for range 2500 {
		s := randomExpr(r, 1+r.Intn(3))
		e, _, code := expr.Parse(s)
		if code != api.OK {
			continue
		}
		a, code := auto.New(e)
		if _, want := expr.Spread(e); code != want {
			t.Fatalf("%q: error %d, want %d", s, code, want)
		}
		if code != api.OK {
			continue
		}
		var rows [][]auto.Item
		for range 5 {
			rows = append(rows, randomRow(r, e))
		}
		for _, items := range append(rows, rows...) {
			far += checkSlow(t, s, e, a, items)
		}
	}
	if far < 20000 {
		t.Errorf("%d items taken", far)
	}
}

func checkSlow(t *testing.T, s string, e expr.Expr, a *auto.Auto, items []auto.Item) int {
	t.Helper()
	n, lefts := slowWalk(e, items)
	whole := slices.ContainsFunc(lefts, slowEmpty)
	if gotN, gotWhole := a.Run(items); gotN != n || gotWhole != whole {
		t.Fatalf("%q of %v: %d %v, want %d %v", s, items, gotN, gotWhole, n, whole)
	}
	var next []string
	if n == len(items) {
		for _, l := range lefts {
			next = append(next, slowFirst(l)...)
		}
	}
	slices.Sort(next)
	if next = slices.Compact(next); !slices.Equal(a.Next(items), next) {
		t.Fatalf("%q behind %v: %v, want %v", s, items, a.Next(items), next)
	}
	if a.States() > api.MaxStates {
		t.Fatalf("%q: %d states", s, a.States())
	}
	return n
}

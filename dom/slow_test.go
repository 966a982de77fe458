package dom_test

import (
	"math/rand"
	"reflect"
	"slices"
	"testing"

	"beadle/api"
	"beadle/dom"
)

// slow is a tree by the chapter's words: each node beside the list of its kids, and nothing else.
type slow struct {
	nodes []dom.Node
	kids  [][]int
}

func newSlow() *slow { return &slow{nodes: []dom.Node{{}}, kids: [][]int{nil}} }

func (s *slow) has(n int) bool { return n >= 0 && n < len(s.nodes) }

func (s *slow) holds(n int) bool {
	return s.has(n) && (s.nodes[n].Kind == dom.Document || s.nodes[n].Kind == dom.Element)
}

func (s *slow) parent(n int) int {
	for p, l := range s.kids {
		if slices.Contains(l, n) {
			return p
		}
	}
	return -1
}

func (s *slow) under(n, other int) bool {
	for n = s.parent(n); n != -1; n = s.parent(n) {
		if n == other {
			return true
		}
	}
	return false
}

func (s *slow) make(n dom.Node) int {
	s.nodes = append(s.nodes, n)
	s.kids = append(s.kids, nil)
	return len(s.nodes) - 1
}

func (s *slow) wrongPlace(parent, before int) bool {
	return !s.holds(parent) || before != -1 && !slices.Contains(s.kids[parent], before)
}

func (s *slow) put(n, parent, before int) api.Errno {
	if !s.has(n) || n == 0 || s.wrongPlace(parent, before) || parent == n || s.under(parent, n) || before == n {
		return api.ErrArg
	}
	s.take(n)
	s.lay(n, parent, before)
	return api.OK
}

func (s *slow) lay(n, parent, before int) {
	at := len(s.kids[parent])
	if before != -1 {
		at = slices.Index(s.kids[parent], before)
	}
	s.kids[parent] = slices.Insert(slices.Clone(s.kids[parent]), at, n)
}

func (s *slow) take(n int) api.Errno {
	if !s.has(n) || n == 0 {
		return api.ErrArg
	}
	if p := s.parent(n); p != -1 {
		s.kids[p] = slices.DeleteFunc(slices.Clone(s.kids[p]), func(k int) bool { return k == n })
	}
	return api.OK
}

func (s *slow) hand(from, to int) api.Errno {
	if !s.holds(from) || !s.holds(to) || from == to || s.under(to, from) {
		return api.ErrArg
	}
	for _, k := range slices.Clone(s.kids[from]) {
		s.take(k)
		s.lay(k, to, -1)
	}
	return api.OK
}

func (s *slow) write(v, at, parent, before int) api.Errno {
	if s.wrongPlace(parent, before) || v < 0 || v > 0x10FFFF || v >= 0xD800 && v <= 0xDFFF {
		return api.ErrArg
	}
	i := len(s.kids[parent])
	if before != -1 {
		i = slices.Index(s.kids[parent], before)
	}
	if i > 0 && s.nodes[s.kids[parent][i-1]].Kind == dom.Text {
		s.nodes[s.kids[parent][i-1]].Data += string(rune(v))
	} else {
		s.lay(s.make(dom.Node{Kind: dom.Text, At: at, Data: string(rune(v))}), parent, before)
	}
	return api.OK
}

func (s *slow) set(n int, a api.Attr) bool {
	if !s.has(n) || s.nodes[n].Kind != dom.Element || slices.ContainsFunc(s.nodes[n].Attrs, func(b api.Attr) bool { return a.Name == b.Name }) {
		return false
	}
	s.nodes[n].Attrs = append(slices.Clone(s.nodes[n].Attrs), a)
	return true
}

func (s *slow) path(n int) ([]int, bool) {
	if n == 0 {
		return nil, true
	}
	p := s.parent(n)
	if p == -1 {
		return nil, false
	}
	steps, ok := s.path(p)
	if !ok {
		return nil, false
	}
	return append(steps, slices.Index(s.kids[p], n)), true
}

func (s *slow) walk(n int) []int {
	out := []int{n}
	for _, k := range s.kids[n] {
		out = append(out, s.walk(k)...)
	}
	return out
}

// P7.1 to P7.4: whatever is done, the tree answers as the slow one.
func TestAsTheSlowOne(t *testing.T) {
	for seed := range int64(300) {
		r := rand.New(rand.NewSource(seed))
		d, s := dom.New(), newSlow()
		for step := range 60 {
			if got, want := doOne(r, d, s); got != want {
				t.Fatalf("seed %d, step %d: %d, want %d", seed, step, got, want)
			}
			if !sameTree(t, d, s) {
				t.Fatalf("seed %d, step %d", seed, step)
			}
		}
	}
}

// doOne does one thing to both trees.
func doOne(r *rand.Rand, d *dom.Tree, s *slow) (int, int) {
	any := func() int { return r.Intn(len(s.nodes)+2) - 1 }
	n, parent, before := any(), any(), -1
	if s.has(parent) && len(s.kids[parent]) > 0 && r.Intn(2) == 0 {
		before = s.kids[parent][r.Intn(len(s.kids[parent]))]
	} else if r.Intn(8) == 0 {
		before = any()
	}
	switch r.Intn(8) {
	case 0, 1:
		node := dom.Node{Kind: 1 + r.Intn(4), At: r.Intn(100), Name: "n", Data: "d"}
		if r.Intn(3) > 0 {
			node.Kind = dom.Element
		}
		return d.Make(node), s.make(node)
	case 2, 3, 4:
		return int(d.Put(n, parent, before)), int(s.put(n, parent, before))
	case 5:
		if r.Intn(3) == 0 {
			return int(d.Take(n)), int(s.take(n))
		}
		return int(d.Hand(n, parent)), int(s.hand(n, parent))
	case 6:
		v := []int{'x', 0xE9, 0x1F600, 0xD800, -1}[r.Intn(5)]
		return int(d.Write(v, n, parent, before)), int(s.write(v, n, parent, before))
	}
	a := api.Attr{Name: string(rune('a' + r.Intn(3))), Value: "v"}
	got, want := d.Set(n, a), s.set(n, a)
	if got != want {
		return 0, 1
	}
	return 0, 0
}

func sameTree(t *testing.T, d *dom.Tree, s *slow) bool {
	same := d.Len() == len(s.nodes)
	for n := range s.nodes {
		node, ok := d.Get(n)
		same = same && ok && reflect.DeepEqual(node, s.nodes[n])
		same = same && d.Parent(n) == s.parent(n) && slices.Equal(d.Kids(n), s.kids[n])
		gotPath, gotOK := d.Path(n)
		wantPath, wantOK := s.path(n)
		same = same && gotOK == wantOK && slices.Equal(gotPath, wantPath)
	}
	return same && slices.Equal(d.Walk(), s.walk(0))
}

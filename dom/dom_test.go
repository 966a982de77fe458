package dom_test

import (
	"math"
	"reflect"
	"slices"
	"strings"
	"testing"

	"beadle/api"
	"beadle/dom"
)

func element(name string) dom.Node { return dom.Node{Kind: dom.Element, Name: name} }

// family is a document with the kids 1 and 5; 1 has the kids 2, 3 and 4, all of them elements.
func family(t *testing.T) *dom.Tree {
	t.Helper()
	d := dom.New()
	for i, parent := range []int{0, 1, 1, 1, 0} {
		n := d.Make(element("e"))
		if n != i+1 || d.Put(n, parent, -1) != api.OK {
			t.Fatalf("node %d", n)
		}
	}
	return d
}

func wantKids(t *testing.T, d *dom.Tree, n int, want ...int) {
	t.Helper()
	if got := d.Kids(n); !slices.Equal(got, want) {
		t.Errorf("kids of %d: %v, want %v", n, got, want)
	}
	for _, k := range want {
		if got := d.Parent(k); got != n {
			t.Errorf("parent of %d: %d, want %d", k, got, n)
		}
	}
}

func wantSame(t *testing.T, what string, got, want any) {
	t.Helper()
	if !reflect.DeepEqual(got, want) {
		t.Errorf("%s: %v, want %v", what, got, want)
	}
}

// P7.1
func TestKindsAreNumbered(t *testing.T) {
	for want, got := range []int{dom.Document, dom.Doctype, dom.Element, dom.Text, dom.Comment} {
		if got != want {
			t.Errorf("kind %d: %d", want, got)
		}
	}
}

// P7.1
func TestNewTree(t *testing.T) {
	d := dom.New()
	if d == nil || d.Len() != 1 || d.Parent(0) != -1 || len(d.Kids(0)) != 0 {
		t.Fatalf("%v", d)
	}
	n, ok := d.Get(0)
	if !ok {
		t.Error("there is no document")
	}
	wantSame(t, "the document", n, dom.Node{Kind: dom.Document})
	if dom.New().Make(element("e")) != 1 || d.Len() != 1 {
		t.Error("two trees share their nodes")
	}
}

// P7.1
func TestMakeKeepsAll(t *testing.T) {
	d := dom.New()
	for kind := dom.Doctype; kind <= dom.Comment; kind++ {
		want := dom.Node{Kind: kind, At: -7 * kind, Name: "n\x00\xff", Data: "d\x00\xff", Attrs: []api.Attr{{Name: "a", Value: "1"}, {Name: "a", Value: "2"}}}
		n := d.Make(want)
		if n != kind || d.Len() != kind+1 || d.Parent(n) != -1 || len(d.Kids(n)) != 0 {
			t.Errorf("kind %d: number %d of %d", kind, n, d.Len())
		}
		got, ok := d.Get(n)
		if !ok {
			t.Errorf("kind %d isn't there", kind)
		}
		wantSame(t, "node", got, want)
	}
	wantKids(t, d, 0)
}

// P7.1
func TestMakeOfNoKind(t *testing.T) {
	d := dom.New()
	for _, kind := range []int{0, -1, 5, 6, math.MaxInt, math.MinInt} {
		if n := d.Make(dom.Node{Kind: kind}); n != -1 || d.Len() != 1 {
			t.Errorf("kind %d: number %d", kind, n)
		}
	}
	if n := d.Make(element("e")); n != 1 {
		t.Errorf("the next number: %d", n)
	}
}

// P7.1
func TestNodesThatAreNotThere(t *testing.T) {
	d := family(t)
	for _, n := range []int{-1, 6, 7, math.MaxInt, math.MinInt} {
		got, ok := d.Get(n)
		if ok {
			t.Errorf("Get(%d) is true", n)
		}
		wantSame(t, "Get", got, dom.Node{})
		if d.Parent(n) != -1 || len(d.Kids(n)) != 0 {
			t.Errorf("Parent(%d): %d, Kids: %v", n, d.Parent(n), d.Kids(n))
		}
		if path, ok := d.Path(n); len(path) != 0 || ok {
			t.Errorf("Path(%d): %v", n, path)
		}
		if d.Set(n, api.Attr{Name: "a"}) {
			t.Errorf("Set(%d)", n)
		}
	}
}

// Rules: answers and arguments share no memory with the tree.
func TestNothingIsShared(t *testing.T) {
	d := dom.New()
	attrs := append(make([]api.Attr, 0, 4), api.Attr{Name: "a", Value: "1"})
	n := d.Make(dom.Node{Kind: dom.Element, Attrs: attrs})
	d.Put(n, 0, -1)
	attrs[0].Value = "changed"
	d.Set(n, api.Attr{Name: "b", Value: "2"})
	if attrs[:2][1] != (api.Attr{}) {
		t.Error("the room behind a list was written into")
	}
	first, _ := d.Get(n)
	first.Attrs[0].Value = "changed"
	second, _ := d.Get(n)
	wantSame(t, "Attrs", second.Attrs, []api.Attr{{Name: "a", Value: "1"}, {Name: "b", Value: "2"}})
	d.Kids(0)[0] = 9
	d.Walk()[1] = 9
	path, _ := d.Path(n)
	path[0] = 9
	wantKids(t, d, 0, n)
	wantSame(t, "Walk", d.Walk(), []int{0, 1})
	path, _ = d.Path(n)
	wantSame(t, "Path", path, []int{0})
}

// P7.2
func TestPut(t *testing.T) {
	rows := []struct {
		n, parent, before int
		of0, of1, of5     []int
	}{
		{5, 1, -1, []int{1}, []int{2, 3, 4, 5}, nil},
		{5, 1, 2, []int{1}, []int{5, 2, 3, 4}, nil},
		{5, 1, 3, []int{1}, []int{2, 5, 3, 4}, nil},
		{5, 1, 4, []int{1}, []int{2, 3, 5, 4}, nil},
		{2, 1, -1, []int{1, 5}, []int{3, 4, 2}, nil},
		{2, 1, 3, []int{1, 5}, []int{2, 3, 4}, nil},
		{2, 1, 4, []int{1, 5}, []int{3, 2, 4}, nil},
		{4, 1, 2, []int{1, 5}, []int{4, 2, 3}, nil},
		{4, 1, 3, []int{1, 5}, []int{2, 4, 3}, nil},
		{4, 1, -1, []int{1, 5}, []int{2, 3, 4}, nil},
		{3, 0, 1, []int{3, 1, 5}, []int{2, 4}, nil},
		{3, 0, 5, []int{1, 3, 5}, []int{2, 4}, nil},
		{3, 0, -1, []int{1, 5, 3}, []int{2, 4}, nil},
		{1, 5, -1, []int{5}, []int{2, 3, 4}, []int{1}},
		{1, 0, -1, []int{5, 1}, []int{2, 3, 4}, nil},
		{3, 5, -1, []int{1, 5}, []int{2, 4}, []int{3}},
	}
	for _, r := range rows {
		d := family(t)
		if e := d.Put(r.n, r.parent, r.before); e != api.OK {
			t.Errorf("Put(%d, %d, %d): %d", r.n, r.parent, r.before, e)
		}
		wantKids(t, d, 0, r.of0...)
		wantKids(t, d, 1, r.of1...)
		wantKids(t, d, 5, r.of5...)
	}
}

// withLeaves is the family, with a doctype 6 ahead of all, and a text 7 and a comment 8 under 5.
func withLeaves(t *testing.T) *dom.Tree {
	t.Helper()
	d := family(t)
	d.Make(dom.Node{Kind: dom.Doctype})
	d.Make(dom.Node{Kind: dom.Text})
	d.Make(dom.Node{Kind: dom.Comment})
	if d.Put(6, 0, 1) != api.OK || d.Put(7, 5, -1) != api.OK || d.Put(8, 5, -1) != api.OK {
		t.Fatal("Put")
	}
	return d
}

func wantLeaves(t *testing.T, d *dom.Tree) {
	t.Helper()
	wantKids(t, d, 0, 6, 1, 5)
	wantKids(t, d, 1, 2, 3, 4)
	wantKids(t, d, 5, 7, 8)
	if d.Len() != 9 {
		t.Errorf("%d nodes", d.Len())
	}
}

// P7.2
func TestPutWrong(t *testing.T) {
	d := withLeaves(t)
	for _, r := range [][3]int{
		{-1, 0, -1}, {9, 0, -1}, {math.MaxInt, 0, -1}, {math.MinInt, 0, -1}, // no n
		{0, 1, -1}, {0, 0, -1}, {0, 0, 1}, // the document
		{2, -1, -1}, {2, 9, -1}, {2, math.MaxInt, -1}, {2, math.MinInt, -1}, // no parent
		{2, 6, -1}, {2, 7, -1}, {2, 8, -1}, // no kids
		{2, 2, -1}, {1, 1, -1}, {7, 7, -1}, // itself
		{1, 2, -1}, {1, 3, -1}, {1, 4, -1}, // under it
		{2, 1, 5}, {2, 1, 1}, {2, 1, 0}, {2, 1, -2}, {2, 1, 9}, {2, 1, math.MaxInt}, {2, 1, math.MinInt}, {2, 0, 3}, // no kid
		{2, 1, 2}, {1, 0, 1}, {7, 5, 7}, // ahead of itself
	} {
		if e := d.Put(r[0], r[1], r[2]); e != api.ErrArg {
			t.Errorf("Put%v: %d", r, e)
		}
	}
	wantLeaves(t, d)
}

// P7.2
func TestPutDeepUnderItself(t *testing.T) {
	d := dom.New()
	for n := range 300 {
		d.Make(element("e"))
		d.Put(n+1, n, -1)
	}
	for n := 1; n <= 300; n++ {
		if e := d.Put(1, n, -1); e != api.ErrArg {
			t.Errorf("Put of 1 under %d: %d", n, e)
		}
	}
	d.Take(150)
	if d.Put(1, 300, -1) != api.OK || d.Put(150, 1, -1) != api.ErrArg || d.Put(150, 149, -1) != api.ErrArg {
		t.Error("what stands nowhere may take in others, but not what it stands under")
	}
	if d.Put(150, 0, -1) != api.OK || len(d.Walk()) != 301 {
		t.Error("back under the document")
	}
}

// P7.2
func TestTake(t *testing.T) {
	d := family(t)
	if d.Take(1) != api.OK || d.Parent(1) != -1 {
		t.Error("Take(1)")
	}
	wantKids(t, d, 0, 5)
	wantKids(t, d, 1, 2, 3, 4)
	if d.Take(3) != api.OK || d.Parent(3) != -1 {
		t.Error("Take(3)")
	}
	wantKids(t, d, 1, 2, 4)
	if d.Take(3) != api.OK || d.Take(1) != api.OK {
		t.Error("what stands nowhere may be taken again")
	}
	for _, n := range []int{0, -1, 6, math.MaxInt, math.MinInt} {
		if e := d.Take(n); e != api.ErrArg {
			t.Errorf("Take(%d): %d", n, e)
		}
	}
	if d.Len() != 6 || d.Put(3, 5, -1) != api.OK {
		t.Error("a node that was taken is there still")
	}
	wantKids(t, d, 5, 3)
}

// P7.2
func TestHand(t *testing.T) {
	d := withLeaves(t)
	if e := d.Hand(1, 5); e != api.OK {
		t.Errorf("%d", e)
	}
	wantKids(t, d, 1)
	wantKids(t, d, 5, 7, 8, 2, 3, 4)
	for i, n := range d.Kids(5) {
		if path, ok := d.Path(n); !ok || !slices.Equal(path, []int{2, i}) {
			t.Errorf("Path(%d): %v", n, path)
		}
	}
	if d.Hand(5, 0) != api.OK || d.Hand(5, 0) != api.OK {
		t.Error("to the document")
	}
	wantKids(t, d, 0, 6, 1, 5, 7, 8, 2, 3, 4)
	wantKids(t, d, 5)
	d.Take(2)
	if d.Hand(0, 2) != api.OK {
		t.Error("from the document")
	}
	wantKids(t, d, 0)
	wantKids(t, d, 2, 6, 1, 5, 7, 8, 3, 4)
	wantSame(t, "Walk", d.Walk(), []int{0})
}

// P7.2
func TestHandToItsParent(t *testing.T) {
	d := family(t)
	if d.Hand(1, 0) != api.OK {
		t.Error("Hand")
	}
	wantKids(t, d, 0, 1, 5, 2, 3, 4)
}

// P7.2
func TestHandWrong(t *testing.T) {
	d := withLeaves(t)
	for _, r := range [][2]int{
		{-1, 1}, {9, 1}, {1, -1}, {1, 9}, {math.MaxInt, math.MinInt}, // not there
		{6, 1}, {7, 1}, {8, 1}, {1, 6}, {1, 7}, {1, 8}, // no kids
		{0, 0}, {1, 1}, {2, 2}, // one
		{1, 2}, {1, 4}, {0, 1}, {0, 2}, // under it
	} {
		if e := d.Hand(r[0], r[1]); e != api.ErrArg {
			t.Errorf("Hand%v: %d", r, e)
		}
	}
	wantLeaves(t, d)
}

// write writes each scalar of a text.
func write(t *testing.T, d *dom.Tree, s string, at, parent, before int) {
	t.Helper()
	for _, v := range s {
		if e := d.Write(int(v), at, parent, before); e != api.OK {
			t.Errorf("Write(%q): %d", v, e)
		}
	}
}

func wantText(t *testing.T, d *dom.Tree, n, at int, data string) {
	t.Helper()
	got, ok := d.Get(n)
	if !ok {
		t.Errorf("there is no %d", n)
	}
	wantSame(t, "text", got, dom.Node{Kind: dom.Text, At: at, Data: data})
}

// P7.3, and the chapter's example
func TestWrite(t *testing.T) {
	d := family(t)
	write(t, d, "ab", 10, 1, -1)
	write(t, d, "c", 11, 1, -1)
	wantKids(t, d, 1, 2, 3, 4, 6)
	wantText(t, d, 6, 10, "abc")
	write(t, d, "de", 12, 1, 2)
	write(t, d, "f", 13, 1, 3)
	wantKids(t, d, 1, 7, 2, 8, 3, 4, 6)
	wantText(t, d, 7, 12, "de")
	wantText(t, d, 8, 13, "f")
	write(t, d, "g", 14, 1, 7)
	wantKids(t, d, 1, 9, 7, 2, 8, 3, 4, 6)
	wantText(t, d, 9, 14, "g")
	write(t, d, "h", 15, 1, 7)
	wantText(t, d, 9, 14, "gh")
	write(t, d, "i", 16, 1, 2)
	wantText(t, d, 7, 12, "dei")
	write(t, d, "j", 17, 5, -1)
	wantKids(t, d, 5, 10)
	wantText(t, d, 10, 17, "j")
	write(t, d, "k", -18, 0, -1)
	wantKids(t, d, 0, 1, 5, 11)
	wantText(t, d, 11, -18, "k")
}

// P7.3
func TestWriteBehindOtherKinds(t *testing.T) {
	d := dom.New()
	for _, kind := range []int{dom.Doctype, dom.Element, dom.Comment} {
		n := d.Make(dom.Node{Kind: kind, Data: "x"})
		d.Put(n, 0, -1)
		write(t, d, "y", 0, 0, -1)
		wantText(t, d, n+1, 0, "y")
	}
	wantKids(t, d, 0, 1, 2, 3, 4, 5, 6)
}

// P7.3
func TestWriteToATextThatWasMade(t *testing.T) {
	d := dom.New()
	n := d.Make(dom.Node{Kind: dom.Text, At: 3, Data: "\xff", Name: "n", Attrs: []api.Attr{{Name: "a"}}})
	d.Put(n, 0, -1)
	write(t, d, "é", 9, 0, -1)
	got, _ := d.Get(n)
	wantSame(t, "node", got, dom.Node{Kind: dom.Text, At: 3, Data: "\xffé", Name: "n", Attrs: []api.Attr{{Name: "a"}}})
	e := d.Make(element("e"))
	d.Put(e, 0, -1)
	d.Put(n, e, -1)
	write(t, d, "z", 9, e, -1)
	got, _ = d.Get(n)
	if got.Data != "\xfféz" || d.Len() != 3 {
		t.Errorf("a text that was moved: %q", got.Data)
	}
}

// P7.3
func TestWriteScalars(t *testing.T) {
	d := dom.New()
	want := ""
	for _, v := range []int{0, 0x7F, 0x80, 0x7FF, 0x800, 0xD7FF, 0xE000, 0xFFFD, 0xFFFE, 0xFFFF, 0x10000, 0x10FFFF} {
		if e := d.Write(v, 0, 0, -1); e != api.OK {
			t.Errorf("Write(%x): %d", v, e)
		}
		want += string(rune(v))
	}
	wantText(t, d, 1, 0, want)
	for _, v := range []int{-1, 0xD800, 0xDBFF, 0xDC00, 0xDFFF, 0x110000, 1 << 32, 1<<32 + 'a', math.MaxInt, math.MinInt} {
		if e := d.Write(v, 0, 0, -1); e != api.ErrArg {
			t.Errorf("Write(%x): %d", v, e)
		}
	}
	wantText(t, d, 1, 0, want)
	if d.Len() != 2 {
		t.Errorf("%d nodes", d.Len())
	}
}

// P7.3
func TestWriteWrong(t *testing.T) {
	d := withLeaves(t)
	for _, r := range [][2]int{
		{-1, -1}, {9, -1}, {math.MaxInt, -1}, {math.MinInt, -1}, {6, -1}, {7, -1}, {8, -1},
		{1, 5}, {1, 1}, {1, 0}, {1, -2}, {1, 9}, {0, 2}, {1, math.MaxInt}, {1, math.MinInt},
	} {
		if e := d.Write('x', 0, r[0], r[1]); e != api.ErrArg {
			t.Errorf("Write under %v: %d", r, e)
		}
	}
	wantLeaves(t, d)
}

// P7.3
func TestWriteMuch(t *testing.T) {
	d := family(t)
	for range 1 << 20 {
		d.Write('x', 0, 1, 3)
	}
	wantText(t, d, 6, 0, strings.Repeat("x", 1<<20))
}

// P7.4
func TestSet(t *testing.T) {
	d := withLeaves(t)
	for _, r := range []struct {
		a    api.Attr
		want bool
	}{
		{api.Attr{Name: "b", Value: "1"}, true},
		{api.Attr{Name: "a", Value: "2"}, true},
		{api.Attr{Name: "b", Value: "3"}, false},
		{api.Attr{Name: "", Value: ""}, true},
		{api.Attr{Name: "", Value: "4"}, false},
		{api.Attr{Name: "B", Value: "5"}, true},
		{api.Attr{Name: "a", Value: "2"}, false},
	} {
		if got := d.Set(1, r.a); got != r.want {
			t.Errorf("Set(%v): %t", r.a, got)
		}
	}
	n, _ := d.Get(1)
	wantSame(t, "Attrs", n.Attrs, []api.Attr{{Name: "b", Value: "1"}, {Name: "a", Value: "2"}, {}, {Name: "B", Value: "5"}})
	for _, n := range []int{0, 6, 7, 8} {
		if d.Set(n, api.Attr{Name: "a"}) {
			t.Errorf("Set on %d", n)
		}
		if node, _ := d.Get(n); len(node.Attrs) != 0 {
			t.Errorf("%d has %v", n, node.Attrs)
		}
	}
}

// P7.4
func TestSetBesideThoseThatWereMade(t *testing.T) {
	d := dom.New()
	n := d.Make(dom.Node{Kind: dom.Element, Attrs: []api.Attr{{Name: "a"}, {Name: "a", Value: "1"}, {Name: "b"}}})
	if d.Set(n, api.Attr{Name: "a"}) || d.Set(n, api.Attr{Name: "b"}) || !d.Set(n, api.Attr{Name: "c"}) || d.Set(n, api.Attr{Name: "c"}) {
		t.Error("Set")
	}
	node, _ := d.Get(n)
	wantSame(t, "Attrs", node.Attrs, []api.Attr{{Name: "a"}, {Name: "a", Value: "1"}, {Name: "b"}, {Name: "c"}})
}

// P7.4
func TestPathAndWalk(t *testing.T) {
	d := withLeaves(t)
	want := map[int][]int{0: {}, 6: {0}, 1: {1}, 2: {1, 0}, 3: {1, 1}, 4: {1, 2}, 5: {2}, 7: {2, 0}, 8: {2, 1}}
	for n, steps := range want {
		if got, ok := d.Path(n); !ok || !slices.Equal(got, steps) {
			t.Errorf("Path(%d): %v %t", n, got, ok)
		}
	}
	wantSame(t, "Walk", d.Walk(), []int{0, 6, 1, 2, 3, 4, 5, 7, 8})
	d.Take(1)
	d.Make(element("e"))
	for _, n := range []int{1, 2, 4, 9} {
		if got, ok := d.Path(n); ok || len(got) != 0 {
			t.Errorf("Path(%d) of what stands nowhere: %v %t", n, got, ok)
		}
	}
	if got, ok := d.Path(5); !ok || !slices.Equal(got, []int{1}) {
		t.Errorf("Path(5): %v", got)
	}
	wantSame(t, "Walk", d.Walk(), []int{0, 6, 5, 7, 8})
	d.Put(1, 5, 8)
	wantSame(t, "Walk", d.Walk(), []int{0, 6, 5, 7, 1, 2, 3, 4, 8})
}

// P7.4, P1
func TestDeepTree(t *testing.T) {
	d := dom.New()
	const deep = 1 << 16
	for n := range deep {
		d.Make(element("e"))
		if d.Put(n+1, n, -1) != api.OK {
			t.Fatal(n)
		}
	}
	if len(d.Walk()) != deep+1 {
		t.Error("Walk")
	}
	if path, ok := d.Path(deep); !ok || len(path) != deep {
		t.Error("Path")
	}
	if d.Put(1, deep, -1) != api.ErrArg || d.Hand(1, deep) != api.ErrArg {
		t.Error("under itself")
	}
}

// P7.4, P1
func TestNilTree(t *testing.T) {
	var d *dom.Tree
	for _, n := range []int{-1, 0, 1} {
		if d.Make(element("e")) != -1 || d.Len() != 0 || d.Parent(n) != -1 || d.Kids(n) != nil || d.Walk() != nil {
			t.Error("Make, Len, Parent, Kids, Walk")
		}
		if got, ok := d.Get(n); ok || !reflect.DeepEqual(got, dom.Node{}) {
			t.Error("Get")
		}
		if d.Put(n, 0, -1) != api.ErrArg || d.Take(n) != api.ErrArg || d.Hand(n, 1) != api.ErrArg || d.Write('x', 0, n, -1) != api.ErrArg {
			t.Error("Put, Take, Hand, Write")
		}
		if path, ok := d.Path(n); ok || path != nil || d.Set(n, api.Attr{Name: "a"}) {
			t.Error("Path, Set")
		}
	}
}

package serial_test

import (
	"math/rand"
	"regexp"
	"strconv"
	"strings"
	"testing"
	"unicode/utf8"

	"beadle/api"
	"beadle/decode"
	"beadle/dom"
	"beadle/dump"
	"beadle/serial"
	"beadle/sniff"
	"beadle/tree"
)

var (
	endOfStyle   = regexp.MustCompile("(?i:</style)")
	endOfScript  = regexp.MustCompile("(?i:</script)")
	wrongComment = regexp.MustCompile("^-?>|--|-$")
	rightName    = regexp.MustCompile("^[a-z0-9-]+$")
)

// wantBack: P12.4 of a tree that is safe.
func wantBack(t *testing.T, d *dom.Tree) {
	t.Helper()
	s := serial.Write(d)
	l := decode.New(sniff.UTF8, 0)
	runes, bad := l.Feed(s)
	rest, worse := l.End()
	var lines decode.Lines
	back, quirks, wrong := tree.Build(lines.Pass(append(runes, rest...)), len(s))
	if len(bad) > 0 || len(worse) > 0 || quirks || len(wrong) > 0 {
		t.Errorf("%s\nquirks %v, wrong %v %v %v", s, quirks, bad, worse, wrong)
	}
	if got, want := dump.Show(back), dump.Show(d); got != want {
		t.Errorf("%s\n got %s\nwant %s", s, got, want)
	}
}

// slowSafe looks at each node by itself, beside its parent and the one ahead of it.
func slowSafe(d *dom.Tree) bool {
	if d == nil || len(d.Walk()) < 5 {
		return false
	}
	for _, n := range d.Walk()[1:] {
		if !slowPlace(d, n) || !slowNode(d, n) {
			return false
		}
	}
	return slowTop(d)
}

func slowTop(d *dom.Tree) bool {
	var words []string
	for _, n := range d.Walk()[1:] {
		node, _ := d.Get(n)
		if path, _ := d.Path(n); len(path) == 1 && node.Kind != dom.Comment || len(path) == 2 {
			words = append(words, strconv.Itoa(len(path))+node.Name)
		}
	}
	first, _ := d.Get(d.Kids(0)[0])
	last, _ := d.Get(d.Kids(0)[len(d.Kids(0))-1])
	return strings.Join(words, " ") == "1html 1html 2head 2body" && first.Kind == dom.Doctype && last.Kind == dom.Element
}

func slowPlace(d *dom.Tree, n int) bool {
	node, _ := d.Get(n)
	over, _ := d.Get(d.Parent(n))
	words := isOne(overFlow+" "+overWords, over.Name)
	switch node.Kind {
	case dom.Text:
		path, _ := d.Path(n)
		at := path[len(path)-1]
		if at > 0 {
			ahead, _ := d.Get(d.Kids(d.Parent(n))[at-1])
			words = words && ahead.Kind != dom.Text
		}
		return words || isOne("title style script", over.Name) && len(d.Kids(d.Parent(n))) == 1
	case dom.Comment:
		return words || over.Kind == dom.Document || isOne("head ul ol dl table tbody tr", over.Name)
	case dom.Doctype:
		return over.Kind == dom.Document
	}
	path, _ := d.Path(n)
	if over.Kind == dom.Document || over.Name == "html" && len(path) == 2 {
		return node.Name == "html" || node.Name == "head" || node.Name == "body"
	}
	return isOne(elementsUnder(over.Name), node.Name) && len(path) <= api.MaxDepth
}

func slowNode(d *dom.Tree, n int) bool {
	node, _ := d.Get(n)
	over, _ := d.Get(d.Parent(n))
	switch node.Kind {
	case dom.Text:
		ascii := strings.Map(slowASCII, node.Data)
		if over.Name == "style" && endOfStyle.MatchString(ascii) || over.Name == "script" && endOfScript.MatchString(ascii) {
			return false
		}
		return node.Data != "" && slowRight(node.Data)
	case dom.Comment:
		return slowRight(node.Data) && !wrongComment.MatchString(node.Data)
	}
	for i, a := range node.Attrs {
		if !rightName.MatchString(a.Name) || !slowRight(a.Value) {
			return false
		}
		for _, b := range node.Attrs[:i] {
			if a.Name == b.Name {
				return false
			}
		}
	}
	return true
}

// slowASCII keeps signs that are no letters of ASCII from being folded into such.
func slowASCII(r rune) rune {
	if r >= utf8.RuneSelf {
		return '?'
	}
	return r
}

func slowRight(s string) bool {
	return utf8.ValidString(s) && !strings.Contains(s, "\x00") && !strings.Contains(s, "\r")
}

// pieces of texts, comments and values; the later ones are seldom right.
var pieces = []string{
	"x", " ", "\n", "é", "\U0001F600", "&", "&amp;", "amp;", "lt", "&#38;", "<", ">", "\"", "'", "=", "/", "-", "!", "</p>", "<b>", "</STYL", "<!--", "]]>",
	"</style", "</Script>", "--", "->", "\x00", "\r", "\xff", "\xc3",
}

type maker struct {
	*rand.Rand
	d *dom.Tree
}

func (m maker) oneOf(list string) string {
	all := strings.Fields(list)
	return all[m.Intn(len(all))]
}

// data: without pieces that are seldom right, but now and then.
func (m maker) data() string {
	many := 23
	if m.Intn(200) == 0 {
		many = len(pieces)
	}
	var s string
	for range m.Intn(5) {
		s += pieces[m.Intn(many)]
	}
	return s
}

func (m maker) attrs() []api.Attr {
	var out []api.Attr
	for _, name := range []string{"a", "id", "data-x", "0", "-", "a", "A"} {
		if len(out) < 5 && m.Intn(6) == 0 {
			out = append(out, api.Attr{Name: name, Value: m.data()})
		}
		if name == "-" && m.Intn(100) > 0 {
			break
		}
	}
	return out
}

func (m maker) add(parent int, n dom.Node) int {
	number := m.d.Make(n)
	m.d.Put(number, parent, -1)
	return number
}

func (m maker) element(parent int, name string) int {
	return m.add(parent, dom.Node{Kind: dom.Element, Name: name, Attrs: m.attrs()})
}

func (m maker) comment(parent int) {
	data := strings.ReplaceAll(m.data(), "-", "_")
	if m.Intn(50) > 0 {
		data = "c" + data
	}
	m.add(parent, dom.Node{Kind: dom.Comment, Data: data})
}

func (m maker) text(parent int) {
	data := m.data()
	if m.Intn(50) > 0 {
		data = "t" + data
	}
	m.add(parent, dom.Node{Kind: dom.Text, Data: data})
}

// fill puts kids under an element of that name, so many levels of them at most.
func (m maker) fill(n int, name string, levels int) {
	words := isOne(overFlow+" "+overWords, name)
	wasText := false
	for range m.Intn(5) {
		switch under := elementsUnder(name); {
		case under == "":
			break
		case words && !wasText && m.Intn(3) == 0:
			m.text(n)
			wasText = true
			continue
		case m.Intn(8) == 0:
			m.comment(n)
		case levels > 0:
			kid := m.oneOf(under)
			if m.Intn(3) == 0 && words {
				kid = m.oneOf("b b i s code div p ul table dl")
			}
			if isOne(under, kid) {
				m.fill(m.element(n, kid), kid, levels-1)
			}
		}
		wasText = len(m.d.Kids(n)) > 0 && m.isText(m.d.Kids(n)[len(m.d.Kids(n))-1])
	}
	if isOne("title style script", name) && m.Intn(2) == 0 {
		m.text(n)
	}
}

func (m maker) isText(n int) bool {
	node, _ := m.d.Get(n)
	return node.Kind == dom.Text
}

func (m maker) document() {
	m.add(0, dom.Node{Kind: dom.Doctype, Name: "html"})
	for m.Intn(4) == 0 {
		m.comment(0)
	}
	html := m.element(0, "html")
	m.fill(m.element(html, "head"), "head", 1)
	m.fill(m.element(html, "body"), "body", 6)
}

// spoil does one thing to the tree that may make it unsafe.
func (m maker) spoil() {
	all := m.d.Walk()
	n, other := all[m.Intn(len(all))], all[m.Intn(len(all))]
	switch m.Intn(6) {
	case 0:
		m.d.Put(n, other, -1)
	case 1:
		m.d.Put(n, m.d.Parent(other), other)
	case 2:
		m.d.Take(n)
	case 3:
		m.d.Hand(n, other)
	case 4:
		m.add(other, dom.Node{Kind: 1 + m.Intn(4), Name: m.oneOf("html p b li td head " + phrases), Data: "x"})
	case 5:
		m.d.Set(n, api.Attr{Name: m.oneOf("a b A é -"), Value: m.data()})
	}
}

// P12.3, P12.4: Safe tells what the slow one tells, and what is safe is read back.
func TestAsTheSlowOne(t *testing.T) {
	safe := 0
	for seed := range int64(10000) {
		m := maker{rand.New(rand.NewSource(seed)), dom.New()}
		m.document()
		for m.Intn(2) == 0 {
			m.spoil()
		}
		got, want := serial.Safe(m.d), slowSafe(m.d)
		if got != want {
			t.Fatalf("seed %d: %v\n%s", seed, got, dump.Show(m.d))
		}
		if got {
			safe++
			wantBack(t, m.d)
		}
		if t.Failed() {
			t.Fatalf("seed %d", seed)
		}
	}
	if safe < 4000 || safe > 8000 {
		t.Errorf("%d are safe", safe)
	}
}

// P12.4: elements of formatting, many of them alike in one another, with and without attributes.
func TestNestedFormatting(t *testing.T) {
	for seed := range int64(2000) {
		m := maker{rand.New(rand.NewSource(seed)), dom.New()}
		m.document()
		body := m.d.Kids(m.d.Kids(0)[len(m.d.Kids(0))-1])[1]
		for at := m.element(body, "p"); m.Intn(30) > 0; {
			at = m.element(at, m.oneOf("b b b i s span label"))
			if m.Intn(4) == 0 {
				m.text(m.element(m.d.Parent(at), m.oneOf("b b b i")))
			}
			if m.Intn(6) == 0 {
				m.text(at)
				at = m.d.Parent(at)
			}
			if node, _ := m.d.Get(at); node.Name == "p" {
				break
			}
		}
		if serial.Safe(m.d) != slowSafe(m.d) {
			t.Fatalf("seed %d", seed)
		}
		if serial.Safe(m.d) {
			wantBack(t, m.d)
		}
		if t.Failed() {
			t.Fatalf("seed %d", seed)
		}
	}
}

// Rules: the same again, and nothing of the tree is changed.
func TestNothingIsChanged(t *testing.T) {
	m := maker{rand.New(rand.NewSource(1)), dom.New()}
	m.document()
	show, s, ok := dump.Show(m.d), serial.Write(m.d), serial.Safe(m.d)
	if serial.Write(m.d) != s || serial.Safe(m.d) != ok || dump.Show(m.d) != show {
		t.Error("another answer")
	}
}

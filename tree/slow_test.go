package tree_test

import (
	"fmt"
	"math/rand"
	"strings"
	"testing"

	"beadle/api"
	"beadle/dump"
	"beadle/lexer"
	"beadle/tree"
)

const (
	voids      = "area base br col embed hr img input keygen link meta param source track wbr"
	parts      = "table tbody tfoot thead tr"
	cellMarks  = "caption col colgroup tbody td tfoot th thead tr"
	blocks     = "address article aside blockquote center details dialog dir div dl fieldset figcaption figure footer header main menu nav ol p search section summary ul pre listing"
	headings   = "h1 h2 h3 h4 h5 h6"
	formatting = "b big code em font i s small strike strong tt u"
	objects    = "applet marquee object"
	headOnes   = "base link meta title style script"
	openAtEnd  = "dd dt li optgroup option p tbody td tfoot th thead tr body html"
	impliedEnd = "dd dt li option optgroup p rb rp rt rtc"
	specials   = "address applet area article aside base basefont bgsound blockquote body br button caption center col colgroup dd details dir div dl dt embed fieldset figcaption figure footer form frame frameset h1 h2 h3 h4 h5 h6 head header hgroup hr html iframe img input keygen li link listing main marquee menu meta nav noembed noframes noscript object ol p param plaintext pre script search section select source style summary table tbody td template textarea tfoot th thead title tr track ul wbr xmp"
	inTables   = "html table template"
	inUsual    = inTables + " td th caption marquee object applet"
)

// slowNode is an element, a text, a comment or a doctype, by its first line of dump's.
type slowNode struct {
	kind, name, data string
	attrs            []api.Attr
	parent           *slowNode
	kids             []*slowNode
}

func (n *slowNode) leave() {
	if n.parent == nil {
		return
	}
	var stay []*slowNode
	for _, k := range n.parent.kids {
		if k != n {
			stay = append(stay, k)
		}
	}
	n.parent.kids, n.parent = stay, nil
}

// put: under a node, right ahead of one of its kids, or behind all.
func (n *slowNode) put(kid, before *slowNode) {
	kid.leave()
	kid.parent = n
	var all []*slowNode
	for _, k := range n.kids {
		if k == before {
			all = append(all, kid)
		}
		all = append(all, k)
	}
	if before == nil {
		all = append(all, kid)
	}
	n.kids = all
}

func (n *slowNode) show(depth int) string {
	var out strings.Builder
	for _, k := range n.kids {
		word := k.data
		if k.kind == "element" || k.kind == "doctype" {
			word = k.name
		}
		fmt.Fprintf(&out, "%d %s %s\n", depth, k.kind, dump.Quote(word))
		for _, a := range k.attrs {
			fmt.Fprintf(&out, "%d attr %s %s\n", depth+1, dump.Quote(a.Name), dump.Quote(a.Value))
		}
		out.WriteString(k.show(depth + 1))
	}
	return out.String()
}

// slow is a builder by the chapter's words, in their order; its modes are known by their names.
type slow struct {
	doc          *slowNode
	stack, marks []*slowNode // a marker is nil
	mode, back   string
	head, form   *slowNode
	fostering    bool
	quirks, done bool
	last         lexer.Token
	wrong        []api.Diag
	textMode     int
	textName     string
}

// limit is thrown where the stack is full.
type limit struct{}

func newSlow() *slow { return &slow{doc: &slowNode{}, mode: "Initial"} }

func (s *slow) token(t lexer.Token) (int, string) {
	defer func() {
		s.last = t
		s.fostering = false
		if r := recover(); r != nil {
			if _, ok := r.(limit); !ok {
				panic(r)
			}
			s.done = true
		}
	}()
	leftOut := t.Kind == lexer.Text && t.Value == 10 && s.last.Kind == lexer.Open && isOne("pre listing textarea", s.last.Name)
	if !s.done && !leftOut {
		s.as(s.mode, t)
	}
	return s.textMode, s.textName
}

func (s *slow) again(mode string, t lexer.Token) {
	s.mode = mode
	s.as(mode, t)
}

func (s *slow) as(mode string, t lexer.Token) {
	switch mode {
	case "Initial":
		s.initial(t)
	case "BeforeHTML":
		s.beforeHTML(t)
	case "BeforeHead":
		s.beforeHead(t)
	case "InHead":
		s.inHead(t)
	case "AfterHead":
		s.afterHead(t)
	case "InText":
		s.inText(t)
	case "InBody":
		s.inBody(t)
	case "InTable":
		s.inTable(t)
	case "InTableBody":
		s.inTableBody(t)
	case "InRow":
		s.inRow(t)
	case "InCell":
		s.inCell(t)
	case "InCaption":
		s.inCaption(t)
	case "AfterBody":
		s.afterBody(t)
	}
}

func (s *slow) tell(c api.Code, t lexer.Token) {
	s.wrong = append(s.wrong, api.Diag{Code: c, At: t.At})
}

func (s *slow) isWrong(t lexer.Token) {
	s.tell(map[int]api.Code{lexer.Open: api.UnexpectedStartTag, lexer.Close: api.UnexpectedEndTag, lexer.Doctype: api.UnexpectedDoctype}[t.Kind], t)
}

func (s *slow) top() *slowNode { return s.stack[len(s.stack)-1] }

func (s *slow) pop() *slowNode {
	n := s.top()
	s.stack = s.stack[:len(s.stack)-1]
	return n
}

func (s *slow) lastTable() int {
	for i := len(s.stack) - 1; i >= 0; i-- {
		if s.stack[i].name == "table" {
			return i
		}
	}
	return -1
}

// place, were that one the top.
func (s *slow) place(top *slowNode, fostering bool) (parent, before *slowNode) {
	if !fostering || !isOne(parts, top.name) {
		return top, nil
	}
	i := s.lastTable()
	if i < 0 {
		return s.stack[0], nil
	}
	if p := s.stack[i].parent; p != nil {
		return p, s.stack[i]
	}
	return s.stack[i-1], nil
}

func (s *slow) insertNode(n *slowNode) {
	parent, before := s.doc, (*slowNode)(nil)
	if len(s.stack) > 0 {
		parent, before = s.place(s.top(), s.fostering)
	}
	parent.put(n, before)
}

func (s *slow) element(name string, attrs []api.Attr, t lexer.Token) *slowNode {
	if len(s.stack) == 512 {
		s.tell(api.LimitExceeded, t)
		panic(limit{})
	}
	n := &slowNode{kind: "element", name: name, attrs: append([]api.Attr(nil), attrs...)}
	s.insertNode(n)
	s.stack = append(s.stack, n)
	if isOne(voids, name) {
		s.pop()
	}
	return n
}

func (s *slow) insert(t lexer.Token) *slowNode {
	n := s.element(t.Name, t.Attrs, t)
	if t.Self && !isOne(voids, t.Name) {
		s.tell(api.NonVoidElementWithTrailingSolidus, t)
	}
	if m := lexer.Of(t.Name); m != lexer.Data {
		s.textMode, s.textName = m, t.Name
	}
	return n
}

func (s *slow) comment(t lexer.Token) {
	s.insertNode(&slowNode{kind: "comment", data: t.Data})
}

func (s *slow) text(t lexer.Token) {
	parent, before := s.place(s.top(), s.fostering)
	var ahead *slowNode
	for _, k := range parent.kids {
		if k == before {
			break
		}
		ahead = k
	}
	if ahead == nil || ahead.kind != "text" {
		ahead = &slowNode{kind: "text"}
		parent.put(ahead, before)
	}
	ahead.data += string(rune(t.Value))
}

func (s *slow) onStack(n *slowNode) int {
	for i, o := range s.stack {
		if n != nil && o == n {
			return i
		}
	}
	return -1
}

func (s *slow) marked(n *slowNode) int {
	for i, m := range s.marks {
		if n != nil && m == n {
			return i
		}
	}
	return -1
}

func without(l []*slowNode, at int) []*slowNode {
	if at < 0 {
		return l
	}
	return append(append([]*slowNode(nil), l[:at]...), l[at+1:]...)
}

func with(l []*slowNode, at int, n *slowNode) []*slowNode {
	return append(append(append([]*slowNode(nil), l[:at]...), n), l[at:]...)
}

func (s *slow) open(t lexer.Token) {
	from := len(s.marks)
	for from > 0 && s.marks[from-1] != nil && s.onStack(s.marks[from-1]) < 0 {
		from--
	}
	for i := from; i < len(s.marks); i++ {
		s.marks[i] = s.element(s.marks[i].name, s.marks[i].attrs, t)
	}
}

func alikeNodes(a, b *slowNode) bool {
	if a.name != b.name || len(a.attrs) != len(b.attrs) {
		return false
	}
	for _, x := range a.attrs {
		n := 0
		for _, y := range b.attrs {
			if x == y {
				n++
			}
		}
		if n == 0 {
			return false
		}
	}
	return true
}

func (s *slow) mark(n *slowNode) {
	first, count := -1, 0
	for i := len(s.marks) - 1; i >= 0 && s.marks[i] != nil; i-- {
		if alikeNodes(s.marks[i], n) {
			first = i
			count++
		}
	}
	if count >= 3 {
		s.marks = without(s.marks, first)
	}
	s.marks = append(s.marks, n)
}

func (s *slow) marker() { s.marks = append(s.marks, nil) }

func (s *slow) clear() {
	for len(s.marks) > 0 {
		m := s.marks[len(s.marks)-1]
		s.marks = s.marks[:len(s.marks)-1]
		if m == nil {
			return
		}
	}
}

func (s *slow) lastMark(name string) *slowNode {
	for i := len(s.marks) - 1; i >= 0 && s.marks[i] != nil; i-- {
		if s.marks[i].name == name {
			return s.marks[i]
		}
	}
	return nil
}

func (s *slow) in(ends, names string) bool {
	for _, name := range strings.Fields(names) {
		for i := len(s.stack) - 1; i >= 0; i-- {
			if s.stack[i].name == name {
				return true
			}
			if isOne(ends, s.stack[i].name) {
				break
			}
		}
	}
	return false
}

// until pops until one of these names was popped.
func (s *slow) until(names string) {
	for !isOne(names, s.pop().name) {
	}
}

func (s *slow) implied(but string) {
	for isOne(impliedEnd, s.top().name) && s.top().name != but {
		s.pop()
	}
}

// ended: Implied(but), where top isn't one of these wrong, Until them.
func (s *slow) ended(but, names string, t lexer.Token) {
	s.implied(but)
	if !isOne(names, s.top().name) {
		s.isWrong(t)
	}
	s.until(names)
}

func (s *slow) closeP(t lexer.Token) { s.ended("p", "p", t) }

func (s *slow) closePOfBlock(t lexer.Token) {
	if s.in(inUsual+" button", "p") {
		s.closeP(t)
	}
}

func (s *slow) clearTo(names string) {
	for !isOne(names+" html", s.top().name) {
		s.pop()
	}
}

func (s *slow) reset() {
	modes := map[string]string{"td": "InCell", "th": "InCell", "tr": "InRow", "tbody": "InTableBody", "tfoot": "InTableBody", "thead": "InTableBody", "caption": "InCaption", "table": "InTable", "body": "InBody", "html": "InBody"}
	for i := len(s.stack) - 1; i >= 0; i-- {
		if m := modes[s.stack[i].name]; m != "" {
			s.mode = m
			return
		}
	}
}

func blank(t lexer.Token) bool {
	return t.Kind == lexer.Text && (t.Value == 9 || t.Value == 10 || t.Value == 12 || t.Value == 32)
}

func isOpen(t lexer.Token, names string) bool  { return t.Kind == lexer.Open && isOne(names, t.Name) }
func isClose(t lexer.Token, names string) bool { return t.Kind == lexer.Close && isOne(names, t.Name) }

func isCloseBut(t lexer.Token, names string) bool {
	return t.Kind == lexer.Close && !isOne(names, t.Name)
}

// outermost makes the html element.
func (s *slow) initial(t lexer.Token) {
	switch {
	case blank(t):
	case t.Kind == lexer.Comment:
		s.comment(t)
	case t.Kind == lexer.Doctype:
		s.doc.put(&slowNode{kind: "doctype", name: t.Name}, nil)
		s.quirks = t.Quirks || t.Name != "html"
		s.mode = "BeforeHTML"
	default:
		s.tell(api.MissingDoctype, t)
		s.quirks = true
		s.again("BeforeHTML", t)
	}
}

func (s *slow) beforeHTML(t lexer.Token) {
	switch {
	case t.Kind == lexer.Doctype:
		s.isWrong(t)
	case t.Kind == lexer.Comment:
		s.comment(t)
	case blank(t):
	case isOpen(t, "html"):
		s.insert(t)
		s.mode = "BeforeHead"
	case isCloseBut(t, "head body html br"):
		s.isWrong(t)
	default:
		s.element("html", nil, t)
		s.again("BeforeHead", t)
	}
}

func (s *slow) beforeHead(t lexer.Token) {
	switch {
	case blank(t):
	case t.Kind == lexer.Comment:
		s.comment(t)
	case t.Kind == lexer.Doctype:
		s.isWrong(t)
	case isOpen(t, "html"):
		s.inBody(t)
	case isOpen(t, "head"):
		s.head = s.insert(t)
		s.mode = "InHead"
	case isCloseBut(t, "head body html br"):
		s.isWrong(t)
	default:
		s.head = s.element("head", nil, t)
		s.again("InHead", t)
	}
}

func (s *slow) inHead(t lexer.Token) {
	switch {
	case blank(t):
		s.text(t)
	case t.Kind == lexer.Comment:
		s.comment(t)
	case t.Kind == lexer.Doctype:
		s.isWrong(t)
	case isOpen(t, "html"):
		s.inBody(t)
	case isOpen(t, "base link meta"):
		s.insert(t)
	case isOpen(t, "title style script"):
		s.insertText(t)
	case isOpen(t, "head"):
		s.isWrong(t)
	case isClose(t, "head"):
		s.pop()
		s.mode = "AfterHead"
	case isCloseBut(t, "body html br"):
		s.isWrong(t)
	default:
		s.pop()
		s.again("AfterHead", t)
	}
}

func (s *slow) insertText(t lexer.Token) {
	s.insert(t)
	s.back, s.mode = s.mode, "InText"
}

func (s *slow) afterHead(t lexer.Token) {
	switch {
	case blank(t):
		s.text(t)
	case t.Kind == lexer.Comment:
		s.comment(t)
	case t.Kind == lexer.Doctype:
		s.isWrong(t)
	case isOpen(t, "html"):
		s.inBody(t)
	case isOpen(t, "body"):
		s.insert(t)
		s.mode = "InBody"
	case isOpen(t, headOnes):
		s.isWrong(t)
		s.stack = append(s.stack, s.head)
		s.inHead(t)
		s.stack = without(s.stack, s.onStack(s.head))
	case isOpen(t, "head"):
		s.isWrong(t)
	case isCloseBut(t, "body html br"):
		s.isWrong(t)
	default:
		s.element("body", nil, t)
		s.again("InBody", t)
	}
}

func (s *slow) inText(t lexer.Token) {
	if t.Kind == lexer.Text {
		s.text(t)
		return
	}
	if t.Kind == lexer.End {
		s.tell(api.UnclosedElements, t)
	}
	s.pop()
	s.textMode, s.textName = lexer.Data, ""
	s.mode = s.back
	if t.Kind == lexer.End {
		s.again(s.back, t)
	}
}

func (s *slow) unclosed(t lexer.Token) {
	for _, n := range s.stack {
		if !isOne(openAtEnd, n.name) {
			s.tell(api.UnclosedElements, t)
			return
		}
	}
}

func (s *slow) inBody(t lexer.Token) {
	switch {
	case t.Kind == lexer.Text && t.Value == 0:
	case t.Kind == lexer.Text:
		s.open(t)
		s.text(t)
	case t.Kind == lexer.Comment:
		s.comment(t)
	case t.Kind == lexer.Doctype:
		s.isWrong(t)
	case t.Kind == lexer.End:
		s.unclosed(t)
		s.done = true
	case t.Kind == lexer.Open:
		s.bodyOpen(t)
	case t.Kind == lexer.Close:
		s.bodyClose(t)
	}
}

func (s *slow) setAttrs(n *slowNode, t lexer.Token) {
	for _, a := range t.Attrs {
		there := false
		for _, o := range n.attrs {
			there = there || o.Name == a.Name
		}
		if !there {
			n.attrs = append(n.attrs, a)
		}
	}
}

func (s *slow) items(t lexer.Token, names string) {
	for i := len(s.stack) - 1; i >= 0; i-- {
		n := s.stack[i].name
		if isOne(names, n) {
			s.ended(n, n, t)
			break
		}
		if isOne(specials, n) && !isOne("address div p", n) {
			break
		}
	}
	s.closePOfBlock(t)
	s.insert(t)
}

func (s *slow) bodyOpen(t lexer.Token) {
	n := t.Name
	switch {
	case n == "html":
		s.isWrong(t)
		s.setAttrs(s.stack[0], t)
	case isOne(headOnes, n):
		s.inHead(t)
	case n == "body":
		s.isWrong(t)
		if len(s.stack) > 1 && s.stack[1].name == "body" {
			s.setAttrs(s.stack[1], t)
		}
	case isOne(blocks, n), n == "plaintext", n == "hr":
		s.closePOfBlock(t)
		s.insert(t)
	case isOne(headings, n):
		s.closePOfBlock(t)
		if isOne(headings, s.top().name) {
			s.isWrong(t)
			s.pop()
		}
		s.insert(t)
	case n == "form" && s.form != nil:
		s.isWrong(t)
	case n == "form":
		s.closePOfBlock(t)
		s.form = s.insert(t)
	case n == "li":
		s.items(t, "li")
	case n == "dd", n == "dt":
		s.items(t, "dd dt")
	case n == "button":
		if s.in(inUsual, "button") {
			s.isWrong(t)
			s.implied("")
			s.until("button")
		}
		s.open(t)
		s.insert(t)
	case isOne(formatting, n):
		s.open(t)
		s.mark(s.insert(t))
	case n == "a":
		if old := s.lastMark("a"); old != nil {
			s.isWrong(t)
			s.adopt(t, "a")
			s.marks = without(s.marks, s.marked(old))
			s.stack = without(s.stack, s.onStack(old))
		}
		s.open(t)
		s.mark(s.insert(t))
	case isOne(objects, n):
		s.open(t)
		s.insert(t)
		s.marker()
	case n == "table":
		if !s.quirks {
			s.closePOfBlock(t)
		}
		s.insert(t)
		s.mode = "InTable"
	case isOne("param source track", n):
		s.insert(t)
	case n == "textarea":
		s.insertText(t)
	case n == "xmp":
		s.closePOfBlock(t)
		s.open(t)
		s.insertText(t)
	case isOne("option optgroup", n):
		if s.top().name == "option" {
			s.pop()
		}
		s.open(t)
		s.insert(t)
	case n == "head", isOne(cellMarks, n):
		s.isWrong(t)
	default:
		s.open(t)
		s.insert(t)
	}
}

// closed: where it isn't in scope wrong; else Implied(but), where top isn't it wrong, Until it.
func (s *slow) closed(t lexer.Token, ends, but string) bool {
	if !s.in(ends, t.Name) {
		s.isWrong(t)
		return false
	}
	s.ended(but, t.Name, t)
	return true
}

func (s *slow) bodyClose(t lexer.Token) {
	n := t.Name
	switch {
	case n == "body", n == "html":
		if !s.in(inUsual, "body") {
			s.isWrong(t)
			return
		}
		s.unclosed(t)
		s.mode = "AfterBody"
		if n == "html" {
			s.again("AfterBody", t)
		}
	case n == "p":
		if !s.in(inUsual+" button", "p") {
			s.isWrong(t)
			s.element("p", nil, t)
		}
		s.closeP(t)
	case isOne(blocks, n), n == "button":
		s.closed(t, inUsual, "")
	case n == "form":
		form := s.form
		s.form = nil
		if form == nil || s.onStack(form) < 0 || !s.in(inUsual, "form") {
			s.isWrong(t)
			return
		}
		s.implied("")
		if s.top() != form {
			s.isWrong(t)
		}
		s.stack = without(s.stack, s.onStack(form))
	case n == "li":
		s.closed(t, inUsual+" ol ul", "li")
	case n == "dd", n == "dt":
		s.closed(t, inUsual, n)
	case isOne(headings, n):
		if !s.in(inUsual, headings) {
			s.isWrong(t)
			return
		}
		s.implied("")
		if s.top().name != n {
			s.isWrong(t)
		}
		s.until(headings)
	case isOne(formatting, n), n == "a":
		s.adopt(t, n)
	case isOne(objects, n):
		if s.closed(t, inUsual, "") {
			s.clear()
		}
	case n == "br":
		s.isWrong(t)
		s.open(t)
		s.element("br", nil, t)
	default:
		s.usualEnd(t, n)
	}
}

func (s *slow) usualEnd(t lexer.Token, n string) {
	for i := len(s.stack) - 1; i >= 0; i-- {
		one := s.stack[i]
		if one.name == n {
			s.implied(n)
			if s.top() != one {
				s.isWrong(t)
			}
			s.popNode(one)
			return
		}
		if isOne(specials, one.name) {
			s.isWrong(t)
			return
		}
	}
}

func (s *slow) popNode(n *slowNode) {
	for s.pop() != n {
	}
}

func (s *slow) adopt(t lexer.Token, name string) {
	if s.top().name == name && s.marked(s.top()) < 0 {
		s.pop()
		return
	}
	for times := 1; times <= 8; times++ {
		f := s.lastMark(name)
		if f == nil {
			s.usualEnd(t, name)
			return
		}
		at := s.onStack(f)
		if at < 0 {
			s.tell(api.MisnestedFormatting, t)
			s.marks = without(s.marks, s.marked(f))
			return
		}
		if !s.in(inUsual, name) {
			s.tell(api.MisnestedFormatting, t)
			return
		}
		if times == 1 && f != s.top() {
			s.tell(api.MisnestedFormatting, t)
		}
		block := -1
		for i := len(s.stack) - 1; i > at; i-- {
			if isOne(specials, s.stack[i].name) {
				block = i
			}
		}
		if block < 0 {
			s.popNode(f)
			s.marks = without(s.marks, s.marked(f))
			return
		}
		s.move(f, at, block)
	}
}

func (s *slow) move(f *slowNode, at, block int) {
	was := append([]*slowNode(nil), s.stack...)
	furthest, c, m := was[block], was[at-1], s.marked(f)
	last := furthest
	for count := 1; block-count > at; count++ {
		node := was[block-count]
		if i := s.marked(node); i >= 0 && count > 3 {
			if i < m {
				m--
			}
			s.marks = without(s.marks, i)
		}
		i := s.marked(node)
		if i < 0 {
			s.stack = without(s.stack, s.onStack(node))
			continue
		}
		made := &slowNode{kind: "element", name: node.name, attrs: node.attrs}
		s.stack[s.onStack(node)] = made
		s.marks[i] = made
		if last == furthest {
			m = i + 1
		}
		made.put(last, nil)
		last = made
	}
	parent, before := s.place(c, true)
	parent.put(last, before)
	made := &slowNode{kind: "element", name: f.name, attrs: f.attrs}
	for _, k := range append([]*slowNode(nil), furthest.kids...) {
		made.put(k, nil)
	}
	furthest.put(made, nil)
	if i := s.marked(f); i < m {
		m--
	}
	s.marks = with(without(s.marks, s.marked(f)), m, made)
	s.stack = without(s.stack, s.onStack(f))
	s.stack = with(s.stack, s.onStack(furthest)+1, made)
}

func (s *slow) foster(t lexer.Token) {
	s.fostering = true
	s.inBody(t)
	s.fostering = false
}

func (s *slow) inTable(t lexer.Token) {
	switch {
	case blank(t):
		s.text(t)
	case t.Kind == lexer.Text:
		s.tell(api.UnexpectedTextInTable, t)
		s.foster(t)
	case t.Kind == lexer.Comment:
		s.comment(t)
	case t.Kind == lexer.Doctype:
		s.isWrong(t)
	case isOpen(t, "caption"):
		s.clearTo("table")
		s.marker()
		s.insert(t)
		s.mode = "InCaption"
	case isOpen(t, "col"):
		s.clearTo("table")
		s.insert(t)
	case isOpen(t, "colgroup"):
		s.clearTo("table")
		s.insert(t)
		s.pop()
	case isOpen(t, "tbody tfoot thead"):
		s.clearTo("table")
		s.insert(t)
		s.mode = "InTableBody"
	case isOpen(t, "td th tr"):
		s.clearTo("table")
		s.element("tbody", nil, t)
		s.again("InTableBody", t)
	case isOpen(t, "table"):
		s.isWrong(t)
		if s.in(inTables, "table") {
			s.until("table")
			s.reset()
			s.again(s.mode, t)
		}
	case isClose(t, "table"):
		if !s.in(inTables, "table") {
			s.isWrong(t)
			return
		}
		s.until("table")
		s.reset()
	case isClose(t, "body html "+cellMarks):
		s.isWrong(t)
	case isOpen(t, "style script"):
		s.inHead(t)
	case t.Kind == lexer.End:
		s.inBody(t)
	default:
		s.isWrong(t)
		s.foster(t)
	}
}

func (s *slow) inTableBody(t lexer.Token) {
	const these = "tbody tfoot thead"
	switch {
	case isOpen(t, "tr"):
		s.clearTo(these)
		s.insert(t)
		s.mode = "InRow"
	case isOpen(t, "th td"):
		s.isWrong(t)
		s.clearTo(these)
		s.element("tr", nil, t)
		s.again("InRow", t)
	case isClose(t, these):
		if !s.in(inTables, t.Name) {
			s.isWrong(t)
			return
		}
		s.clearTo(these)
		s.pop()
		s.mode = "InTable"
	case isOpen(t, "caption col colgroup "+these), isClose(t, "table"):
		if !s.in(inTables, these) {
			s.isWrong(t)
			return
		}
		s.clearTo(these)
		s.pop()
		s.again("InTable", t)
	case isClose(t, "body caption col colgroup html td th tr"):
		s.isWrong(t)
	default:
		s.inTable(t)
	}
}

func (s *slow) inRow(t lexer.Token) {
	const these = "tbody tfoot thead"
	switch {
	case isOpen(t, "th td"):
		s.clearTo("tr")
		s.insert(t)
		s.marker()
		s.mode = "InCell"
	case isClose(t, these) && !s.in(inTables, t.Name):
		s.isWrong(t)
	case isClose(t, "tr table "+these), isOpen(t, "caption col colgroup tr "+these):
		if !s.in(inTables, "tr") {
			s.isWrong(t)
			return
		}
		s.clearTo("tr")
		s.pop()
		s.mode = "InTableBody"
		if !isClose(t, "tr") {
			s.again("InTableBody", t)
		}
	case isClose(t, "body caption col colgroup html td th"):
		s.isWrong(t)
	default:
		s.inTable(t)
	}
}

func (s *slow) inCell(t lexer.Token) {
	const five = "table tbody tfoot thead tr"
	switch {
	case isClose(t, "td th"):
		if s.closed(t, inTables, "") {
			s.clear()
			s.mode = "InRow"
		}
	case isOpen(t, cellMarks), isClose(t, five) && s.in(inTables, t.Name):
		s.ended("", "td th", t)
		s.clear()
		s.again("InRow", t)
	case isClose(t, "body caption col colgroup html "+five):
		s.isWrong(t)
	default:
		s.inBody(t)
	}
}

func (s *slow) inCaption(t lexer.Token) {
	switch {
	case isClose(t, "caption table"), isOpen(t, cellMarks):
		if !s.in(inTables, "caption") {
			s.isWrong(t)
			return
		}
		s.ended("", "caption", t)
		s.clear()
		s.mode = "InTable"
		if !isClose(t, "caption") {
			s.again("InTable", t)
		}
	case isClose(t, "body html "+cellMarks):
		s.isWrong(t)
	default:
		s.inBody(t)
	}
}

func (s *slow) afterBody(t lexer.Token) {
	switch {
	case blank(t):
		s.inBody(t)
	case t.Kind == lexer.Comment:
		s.stack[0].put(&slowNode{kind: "comment", data: t.Data}, nil)
	case t.Kind == lexer.Doctype:
		s.isWrong(t)
	case isOpen(t, "html"):
		s.inBody(t)
	case isClose(t, "html"):
	case t.Kind == lexer.End:
		s.done = true
	case t.Kind == lexer.Text:
		s.tell(api.TextNotAllowed, t)
		s.again("InBody", t)
	default:
		s.isWrong(t)
		s.again("InBody", t)
	}
}

// themes are the names that stand in the documents of TestBesideSlowBuilder.
func themes() map[string]string {
	return map[string]string{
		"formatting": "b i a p div em span li ul button table td tr caption applet object h1 hr xmp",
		"misnested":  "b i a p div u s span",
		"tables":     parts + " " + cellMarks + " b p div a i span h1 li br form template",
		"texts":      "style script textarea title xmp pre listing table td p b div button applet plaintext",
		"lists":      "ul ol li dl dd dt p div address b option optgroup h1 h2 hr br section select button",
		"forms":      "form button p div b i input h1 textarea option label table tr td",
		"heads":      "html head body base link meta title style script p br frameset table",
		"all":        voids + " " + parts + " " + cellMarks + " " + blocks + " " + headings + " " + formatting + " " + objects + " " + headOnes + " a html head body form button li dd dt option optgroup xmp textarea span select template",
	}
}

// document is one of these names, with much that is wrong.
func document(r *rand.Rand, names []string, length int) string {
	odd := []string{"x", "y", " ", "\n", "\t", "\x00", "\r", "<!--c-->", "<!DOCTYPE html>", "&amp;", "\n\n", "\f"}
	var out strings.Builder
	out.WriteString([]string{"", doctype, doctype + "<body>", "<!DOCTYPE x>", "<!DOCTYPE>"}[r.Intn(5)])
	for range length {
		name := names[r.Intn(len(names))]
		switch kind := r.Intn(16); {
		case kind < 4:
			out.WriteString(odd[r.Intn(len(odd))])
		case kind < 9:
			out.WriteString("</" + name + ">")
		case kind == 9:
			out.WriteString("<" + name + "/>")
		case kind == 10:
			out.WriteString("<" + name + " k=" + string(rune('0'+r.Intn(3))) + ">")
		default:
			out.WriteString("<" + name + ">")
		}
	}
	return out.String()
}

// P11.1 to P11.7, beside the slow builder.
func TestBesideSlowBuilder(t *testing.T) {
	for theme, list := range themes() {
		names := strings.Fields(list)
		for seed := range int64(1500) {
			r := rand.New(rand.NewSource(seed))
			besideSlow(t, document(r, names, 1+r.Intn(60)))
			if t.Failed() {
				t.Fatalf("%s, seed %d", theme, seed)
			}
		}
	}
}

func besideSlow(t *testing.T, doc string) {
	t.Helper()
	l, b, s := lexer.New(), tree.New(), newSlow()
	l.Put(runes(doc, 0))
	l.Close(len(doc))
	for one, ok := l.Next(); ok; one, ok = l.Next() {
		mode, name := b.Token(one)
		wantMode, wantName := s.token(one)
		if mode != wantMode || name != wantName || b.Done() != s.done || b.Quirks() != s.quirks {
			t.Errorf("%q at %d: mode %d %s, done %v, quirks %v", doc, one.At, mode, name, b.Done(), b.Quirks())
		}
		l.Mode(mode, name)
	}
	if got, want := dump.Show(b.Tree()), s.doc.show(1); got != want {
		t.Errorf("%q:\n%swant\n%s", doc, got, want)
	}
	if got, want := told(b.Wrong()), told(s.wrong); got != want {
		t.Errorf("%q:\n%s\nwant\n%s", doc, got, want)
	}
}

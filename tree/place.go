package tree

import (
	"slices"

	"beadle/api"
	"beadle/dom"
	"beadle/lexer"
	"beadle/marks"
	"beadle/stack"
)

// behind stands for the kid that there isn't: what is put stands behind all kids.
const behind = -1

// place is where a new node stands: under parent, right ahead of before.
type place struct {
	parent, before int
}

// top is the last one that is open; where nothing is open yet, the document's number stands in it.
func (b *Builder) top() stack.Item {
	top, _ := b.open.Top()
	return top
}

// first is the first one that is open.
func (b *Builder) first() stack.Item {
	if items := b.open.Items(); len(items) > 0 {
		return items[0]
	}
	return stack.Item{}
}

// depth: how many are open.
func (b *Builder) depth() int {
	return b.open.Find(b.top().Node) + 1
}

// place is where what is new stands.
func (b *Builder) place() place {
	return b.placeUnder(b.top(), b.fostering)
}

// placeUnder is the place, were that one the top.
func (b *Builder) placeUnder(top stack.Item, fostering bool) place {
	if fostering && isTablePart(top.Name) {
		return b.fosterPlace()
	}
	return place{top.Node, behind}
}

// fosterPlace is ahead of the innermost table.
func (b *Builder) fosterPlace() place {
	ahead, table := b.aroundTable()
	if table.Node == 0 {
		return place{b.first().Node, behind}
	}
	if parent := b.tree.Parent(table.Node); parent >= 0 {
		return place{parent, table.Node}
	}
	return place{ahead.Node, behind}
}

// aroundTable: the last table that is open, and the one ahead of it.
func (b *Builder) aroundTable() (ahead, table stack.Item) {
	for _, one := range slices.Backward(b.open.Items()) {
		if table.Node != 0 {
			return one, table
		}
		if one.Name == "table" {
			table = one
		}
	}
	return stack.Item{}, table
}

// insert puts the element of a start tag at the place, and on the stack.
func (b *Builder) insert(t lexer.Token) stack.Item {
	item := b.insertElement(t.Name, t.Attrs, t)
	if b.done {
		return item
	}
	if t.Self && !Void(t.Name) {
		b.tell(api.NonVoidElementWithTrailingSolidus, t)
	}
	if of := lexer.Of(t.Name); of != lexer.Data {
		b.text, b.until = of, t.Name
	}
	return item
}

// insertName puts an element that no tag told there.
func (b *Builder) insertName(name string, t lexer.Token) stack.Item {
	return b.insertElement(name, nil, t)
}

func (b *Builder) insertElement(name string, attrs []api.Attr, t lexer.Token) stack.Item {
	if b.depth() >= api.MaxDepth {
		b.tell(api.LimitExceeded, t)
		b.done = true
	}
	if b.done {
		return stack.Item{}
	}
	item := b.makeElement(name, attrs, t)
	b.put(item.Node, b.place())
	if !Void(name) {
		b.open.Push(item)
	}
	return item
}

// makeElement: one that stands nowhere yet.
func (b *Builder) makeElement(name string, attrs []api.Attr, t lexer.Token) stack.Item {
	return stack.Item{
		Node: b.tree.Make(dom.Node{Kind: dom.Element, At: t.At, Name: name, Attrs: attrs}),
		Name: name,
	}
}

func (b *Builder) put(node int, at place) {
	b.tree.Put(node, at.parent, at.before)
}

func (b *Builder) insertComment(t lexer.Token, at place) {
	b.put(b.tree.Make(dom.Node{Kind: dom.Comment, At: t.At, Data: t.Data}), at)
}

func (b *Builder) insertText(t lexer.Token) {
	if b.done {
		return
	}
	at := b.place()
	b.tree.Write(t.Value, t.At, at.parent, at.before)
}

// setAttrs gives an element those of a tag's attributes that it hasn't.
func (b *Builder) setAttrs(node int, t lexer.Token) {
	for _, a := range t.Attrs {
		b.tree.Set(node, a)
	}
}

// insertMarked puts an element of formatting at the place, and among the marks.
func (b *Builder) insertMarked(t lexer.Token) {
	b.reopen(t)
	item := b.insert(t)
	b.marks.Add(marks.Entry{Node: item.Node, Name: t.Name, Attrs: t.Attrs})
}

// reopen opens the marks again that blocks have closed.
func (b *Builder) reopen(t lexer.Token) {
	if b.reopened {
		return
	}
	b.reopened = t.Kind == lexer.Text
	var open []int
	for _, one := range b.open.Items() {
		open = append(open, one.Node)
	}
	from := b.marks.Rest(open)
	for at, e := range b.marks.Entries() {
		if at >= from {
			e.Node = b.insertElement(e.Name, e.Attrs, t).Node
			b.marks.Swap(at, e)
		}
	}
}

package tree

import (
	"slices"

	"beadle/api"
	"beadle/lexer"
	"beadle/stack"
)

func (b *Builder) inBody(t lexer.Token) bool {
	switch t.Kind {
	case lexer.Text:
		b.bodyText(t)
	case lexer.Comment:
		b.insertComment(t, b.place())
	case lexer.Doctype:
		b.blame(t)
	case lexer.Open:
		b.bodyOpen(t)
	case lexer.Close:
		return b.bodyClose(t)
	case lexer.End:
		b.tellUnclosed(t)
		b.done = true
	}
	return false
}

func (b *Builder) bodyText(t lexer.Token) {
	if t.Value == 0 {
		return
	}
	b.reopen(t)
	b.insertText(t)
}

// tellUnclosed: at the end, are there elements open that should have been closed?
func (b *Builder) tellUnclosed(t lexer.Token) {
	unclosed := func(i stack.Item) bool { return !mayStayOpen(i.Name) }
	if slices.ContainsFunc(b.open.Items(), unclosed) {
		b.tell(api.UnclosedElements, t)
	}
}

func (b *Builder) bodyOpen(t lexer.Token) {
	switch {
	case isBlock(t.Name), is(t.Name, "plaintext", "hr"):
		b.openBlock(t)
	case isFormatting(t.Name):
		b.insertMarked(t)
	case t.Name == "a":
		b.openLink(t)
	case isHeading(t.Name):
		b.openHeading(t)
	case t.Name == "li":
		b.openItem(t, "li")
	case is(t.Name, "dd", "dt"):
		b.openItem(t, "dd", "dt")
	case is(t.Name, "html", "body"):
		b.openAgain(t)
	case t.Name == "head", isCellMark(t.Name):
		b.blame(t)
	case isForHead(t):
		b.openForHead(t)
	case is(t.Name, "param", "source", "track"):
		b.insert(t)
	default:
		b.openOther(t)
	}
}

// openOther is bodyOpen of what stands in lines of text, or holds something of its own.
func (b *Builder) openOther(t lexer.Token) {
	switch t.Name {
	case "form":
		b.openForm(t)
	case "button":
		b.openButton(t)
	case "table":
		b.openTable(t)
	case "textarea":
		b.openText(t)
	case "xmp":
		b.closeP(t)
		b.reopen(t)
		b.openText(t)
	case "applet", "marquee", "object":
		b.reopen(t)
		b.insert(t)
		b.marks.Mark()
	case "option", "optgroup":
		if b.top().Name == "option" {
			b.open.Pop()
		}
		b.reopen(t)
		b.insert(t)
	default:
		b.reopen(t)
		b.insert(t)
	}
}

// openAgain is of the tags whose elements are there already: they take what attributes they haven't.
func (b *Builder) openAgain(t lexer.Token) {
	b.blame(t)
	items := b.open.Items()
	switch {
	case t.Name == "html" && len(items) > 0:
		b.setAttrs(items[0].Node, t)
	case t.Name == "body" && len(items) > 1 && items[1].Name == "body":
		b.setAttrs(items[1].Node, t)
	}
}

// closeP closes a p, where one is open that what comes can't stand in.
func (b *Builder) closeP(t lexer.Token) {
	if b.open.In(stack.Button, "p") {
		b.finish(t, "p", "p")
	}
}

// finish takes away all up to the last one of a name, which is told as wrong where more was open than what ends by itself.
func (b *Builder) finish(t lexer.Token, name, but string) {
	b.open.Implied(but)
	if b.top().Name != name {
		b.blame(t)
	}
	b.open.Until(name)
}

func (b *Builder) openBlock(t lexer.Token) {
	b.closeP(t)
	b.insert(t)
}

func (b *Builder) openHeading(t lexer.Token) {
	b.closeP(t)
	if isHeading(b.top().Name) {
		b.blame(t)
		b.open.Pop()
	}
	b.insert(t)
}

func (b *Builder) openForm(t lexer.Token) {
	if b.form != 0 {
		b.blame(t)
		return
	}
	b.closeP(t)
	b.form = b.insert(t).Node
}

// openItem opens an item of a list, behind the one of these names that is open there.
func (b *Builder) openItem(t lexer.Token, names ...string) {
	for _, one := range slices.Backward(b.open.Items()) {
		if is(one.Name, names...) {
			b.finish(t, one.Name, one.Name)
			break
		}
		if stack.Special(one.Name) && !is(one.Name, "address", "div", "p") {
			break
		}
	}
	b.openBlock(t)
}

func (b *Builder) openButton(t lexer.Token) {
	if b.open.In(stack.Usual, "button") {
		b.blame(t)
		b.open.Implied("")
		b.open.Until("button")
	}
	b.reopen(t)
	b.insert(t)
}

// openLink opens an a, which doesn't stand in another one.
func (b *Builder) openLink(t lexer.Token) {
	if at := b.marks.Last("a"); at >= 0 {
		old := b.marks.Entries()[at].Node
		b.blame(t)
		b.adopt(t, "a")
		b.marks.Cut(b.marks.Find(old))
		b.open.Cut(b.open.Find(old))
	}
	b.insertMarked(t)
}

func (b *Builder) openTable(t lexer.Token) {
	if !b.quirks {
		b.closeP(t)
	}
	b.insert(t)
	b.mode = (*Builder).inTable
}

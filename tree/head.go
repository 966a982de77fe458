package tree

import (
	"beadle/api"
	"beadle/dom"
	"beadle/lexer"
)

func (b *Builder) initial(t lexer.Token) bool {
	switch {
	case isBlank(t):
		return false
	case t.Kind == lexer.Comment:
		b.insertComment(t, b.place())
		return false
	case t.Kind == lexer.Doctype:
		b.put(b.tree.Make(dom.Node{Kind: dom.Doctype, At: t.At, Name: t.Name}), b.place())
		b.quirks = t.Quirks || t.Name != "html"
		b.mode = (*Builder).beforeHTML
		return false
	}
	b.tell(api.MissingDoctype, t)
	b.quirks = true
	b.mode = (*Builder).beforeHTML
	return true
}

func (b *Builder) beforeHTML(t lexer.Token) bool {
	switch {
	case isBlank(t):
		return false
	case t.Kind == lexer.Comment:
		b.insertComment(t, b.place())
		return false
	case t.Kind == lexer.Doctype, isStrayEnd(t):
		b.blame(t)
		return false
	}
	b.mode = (*Builder).beforeHead
	if opens(t, "html") {
		b.insert(t)
		return false
	}
	b.insertName("html", t)
	return true
}

func (b *Builder) beforeHead(t lexer.Token) bool {
	switch {
	case isBlank(t):
		return false
	case t.Kind == lexer.Comment:
		b.insertComment(t, b.place())
		return false
	case t.Kind == lexer.Doctype, isStrayEnd(t):
		b.blame(t)
		return false
	case opens(t, "html"):
		return b.inBody(t)
	}
	b.mode = (*Builder).inHead
	if opens(t, "head") {
		b.head = b.insert(t)
		return false
	}
	b.head = b.insertName("head", t)
	return true
}

// isStrayEnd: is it an end tag that opens nothing ahead of the head?
func isStrayEnd(t lexer.Token) bool {
	return t.Kind == lexer.Close && !is(t.Name, "head", "body", "html", "br")
}

func (b *Builder) inHead(t lexer.Token) bool {
	if b.aroundHead(t) {
		return false
	}
	switch {
	case opens(t, "html"):
		return b.inBody(t)
	case isForHead(t):
		b.openForHead(t)
		return false
	}
	b.open.Pop()
	b.mode = (*Builder).afterHead
	return !closes(t, "head")
}

func (b *Builder) afterHead(t lexer.Token) bool {
	if closes(t, "head") {
		b.blame(t)
		return false
	}
	if b.aroundHead(t) {
		return false
	}
	switch {
	case opens(t, "html"):
		return b.inBody(t)
	case isForHead(t):
		b.blame(t)
		b.open.Push(b.head)
		b.openForHead(t)
		b.open.Cut(b.open.Find(b.head.Node))
		return false
	}
	b.mode = (*Builder).inBody
	if opens(t, "body") {
		b.insert(t)
		return false
	}
	b.insertName("body", t)
	return true
}

// aroundHead does what is alike in the head and behind it; false, where the token is none of that.
func (b *Builder) aroundHead(t lexer.Token) bool {
	switch {
	case isBlank(t):
		b.insertText(t)
	case t.Kind == lexer.Comment:
		b.insertComment(t, b.place())
	case t.Kind == lexer.Doctype, opens(t, "head"), isStrayEnd(t):
		b.blame(t)
	default:
		return false
	}
	return true
}

// isForHead: is it a start tag of what stands in the head?
func isForHead(t lexer.Token) bool {
	return opens(t, "base", "link", "meta", "title", "style", "script")
}

func (b *Builder) openForHead(t lexer.Token) {
	if Void(t.Name) {
		b.insert(t)
		return
	}
	b.openText(t)
}

// openText inserts an element of which all is text up to its end tag.
func (b *Builder) openText(t lexer.Token) {
	b.insert(t)
	b.back = b.mode
	b.mode = (*Builder).inText
}

func (b *Builder) inText(t lexer.Token) bool {
	if t.Kind == lexer.Text {
		b.insertText(t)
		return false
	}
	if t.Kind == lexer.End {
		b.tell(api.UnclosedElements, t)
	}
	b.open.Pop()
	b.mode = b.back
	b.text, b.until = lexer.Data, ""
	return t.Kind == lexer.End
}

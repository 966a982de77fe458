package tree

import (
	"slices"

	"beadle/api"
	"beadle/lexer"
	"beadle/stack"
)

// bodyClose is inBody of end tags.
func (b *Builder) bodyClose(t lexer.Token) bool {
	switch {
	case is(t.Name, "body", "html"):
		return b.closeBody(t)
	case t.Name == "form":
		b.closeForm(t)
	case t.Name == "p":
		if !b.open.In(stack.Button, "p") {
			b.blame(t)
			b.insertName("p", t)
		}
		b.closeP(t)
	case t.Name == "li":
		b.closeIn(t, stack.List, "li", "li")
	case is(t.Name, "dd", "dt"):
		b.closeIn(t, stack.Usual, t.Name, t.Name)
	case isBlock(t.Name), t.Name == "button":
		b.closeIn(t, stack.Usual, t.Name, "")
	case isHeading(t.Name):
		b.closeHeading(t)
	case isFormatting(t.Name), t.Name == "a":
		b.adopt(t, t.Name)
	case is(t.Name, "applet", "marquee", "object"):
		if b.closeIn(t, stack.Usual, t.Name, "") {
			b.marks.Clear()
		}
	case t.Name == "br":
		b.blame(t)
		b.bodyOpen(lexer.Token{Kind: lexer.Open, Name: "br", At: t.At})
	default:
		b.closeUsual(t, t.Name)
	}
	return false
}

func (b *Builder) closeBody(t lexer.Token) bool {
	if !b.open.In(stack.Usual, "body") {
		b.blame(t)
		return false
	}
	b.tellUnclosed(t)
	b.mode = (*Builder).afterBody
	return t.Name == "html"
}

// closeIn closes the last one of a name, where that is in scope; is it?
func (b *Builder) closeIn(t lexer.Token, scope int, name, but string) bool {
	if !b.open.In(scope, name) {
		b.blame(t)
		return false
	}
	b.finish(t, name, but)
	return true
}

func (b *Builder) closeForm(t lexer.Token) {
	form := b.form
	b.form = 0
	if b.open.Find(form) < 0 || !b.open.In(stack.Usual, "form") {
		b.blame(t)
		return
	}
	b.open.Implied("")
	if b.top().Node != form {
		b.blame(t)
	}
	b.open.Cut(b.open.Find(form))
}

func (b *Builder) closeHeading(t lexer.Token) {
	if !b.anyIn(stack.Usual, "h1", "h2", "h3", "h4", "h5", "h6") {
		b.blame(t)
		return
	}
	b.open.Implied("")
	if b.top().Name != t.Name {
		b.blame(t)
	}
	b.popUntil(isHeading)
}

// anyIn: is one of these in scope?
func (b *Builder) anyIn(scope int, names ...string) bool {
	in := func(name string) bool { return b.open.In(scope, name) }
	return slices.ContainsFunc(names, in)
}

// popUntil pops until one whose name is meant was popped.
func (b *Builder) popUntil(meant func(name string) bool) {
	for one, ok := b.open.Pop(); ok && !meant(one.Name); {
		one, ok = b.open.Pop()
	}
}

// popNode pops until that very one was popped.
func (b *Builder) popNode(node int) {
	for one, ok := b.open.Pop(); ok && one.Node != node; {
		one, ok = b.open.Pop()
	}
}

// closeUsual is the usual end of a name.
func (b *Builder) closeUsual(t lexer.Token, name string) {
	for _, one := range slices.Backward(b.open.Items()) {
		if one.Name == name {
			b.open.Implied(name)
			if b.top().Node != one.Node {
				b.blame(t)
			}
			b.popNode(one.Node)
			return
		}
		if stack.Special(one.Name) {
			b.blame(t)
			return
		}
	}
}

func (b *Builder) afterBody(t lexer.Token) bool {
	switch {
	case isBlank(t), opens(t, "html"):
		return b.inBody(t)
	case t.Kind == lexer.Comment:
		b.insertComment(t, place{b.first().Node, behind})
	case t.Kind == lexer.Doctype:
		b.blame(t)
	case closes(t, "html"):
		return false
	case t.Kind == lexer.End:
		b.done = true
	default:
		b.blame(t)
		if t.Kind == lexer.Text {
			b.tell(api.TextNotAllowed, t)
		}
		b.mode = (*Builder).inBody
		return true
	}
	return false
}

package tree

import (
	"slices"

	"beadle/api"
	"beadle/lexer"
	"beadle/stack"
)

func (b *Builder) inTable(t lexer.Token) bool {
	switch t.Kind {
	case lexer.Text:
		if isBlank(t) {
			b.insertText(t)
			return false
		}
		b.tell(api.UnexpectedTextInTable, t)
		return b.foster(t)
	case lexer.Comment:
		b.insertComment(t, b.place())
	case lexer.Doctype:
		b.blame(t)
	case lexer.Open:
		return b.tableOpen(t)
	case lexer.Close:
		return b.tableClose(t)
	case lexer.End:
		return b.inBody(t)
	}
	return false
}

// foster does as in the body, but what would stand in the table stands ahead of it.
func (b *Builder) foster(t lexer.Token) bool {
	b.fostering = true
	again := b.inBody(t)
	b.fostering = false
	return again
}

func (b *Builder) tableOpen(t lexer.Token) bool {
	switch {
	case t.Name == "caption":
		b.clearTo("table")
		b.marks.Mark()
		b.insert(t)
		b.mode = (*Builder).inCaption
	case is(t.Name, "col", "colgroup"):
		b.clearTo("table")
		if b.insert(t); t.Name == "colgroup" {
			b.open.Pop()
		}
	case isSection(t.Name):
		b.clearTo("table")
		b.insert(t)
		b.mode = (*Builder).inTableBody
	case is(t.Name, "td", "th", "tr"):
		b.clearTo("table")
		b.insertName("tbody", t)
		b.mode = (*Builder).inTableBody
		return true
	case t.Name == "table":
		b.blame(t)
		return b.closeTable()
	case is(t.Name, "style", "script"):
		b.openForHead(t)
	default:
		b.blame(t)
		return b.foster(t)
	}
	return false
}

func (b *Builder) tableClose(t lexer.Token) bool {
	switch {
	case t.Name == "table":
		if !b.closeTable() {
			b.blame(t)
		}
	case is(t.Name, "body", "html"), isCellMark(t.Name):
		b.blame(t)
	default:
		b.blame(t)
		return b.foster(t)
	}
	return false
}

// closeTable closes the table, and goes back to what is around it; false, where there is none in scope.
func (b *Builder) closeTable() bool {
	if !b.open.In(stack.Table, "table") {
		return false
	}
	b.open.Until("table")
	b.reset()
	return true
}

// reset: the mode by what is open.
func (b *Builder) reset() {
	for _, one := range slices.Backward(b.open.Items()) {
		if m := modeIn(one.Name); m != nil {
			b.mode = m
			return
		}
	}
}

// modeIn is the mode of what stands right in an element of that name; nil of those that have none.
func modeIn(name string) mode {
	switch name {
	case "td", "th":
		return (*Builder).inCell
	case "tr":
		return (*Builder).inRow
	case "tbody", "tfoot", "thead":
		return (*Builder).inTableBody
	case "caption":
		return (*Builder).inCaption
	case "table":
		return (*Builder).inTable
	case "body", "html":
		return (*Builder).inBody
	}
	return nil
}

// clearTo pops until one of these is the last one that is open.
func (b *Builder) clearTo(names ...string) {
	for top, ok := b.open.Top(); ok && top.Name != "html" && !is(top.Name, names...); {
		b.open.Pop()
		top, ok = b.open.Top()
	}
}

func (b *Builder) clearToSection() {
	b.clearTo("tbody", "tfoot", "thead")
}

func (b *Builder) inTableBody(t lexer.Token) bool {
	switch {
	case opens(t, "tr"):
		b.clearToSection()
		b.insert(t)
		b.mode = (*Builder).inRow
	case opens(t, "th", "td"):
		b.blame(t)
		b.clearToSection()
		b.insertName("tr", t)
		b.mode = (*Builder).inRow
		return true
	case closes(t, "tbody", "tfoot", "thead"):
		b.closeSection(t, t.Name)
	case opens(t, "caption", "col", "colgroup", "tbody", "tfoot", "thead"), closes(t, "table"):
		return b.closeSection(t, "tbody", "tfoot", "thead")
	case closes(t, "body", "caption", "col", "colgroup", "html", "td", "th", "tr"):
		b.blame(t)
	default:
		return b.inTable(t)
	}
	return false
}

// closeSection closes the section of the table, where one of these names is in scope; is one?
func (b *Builder) closeSection(t lexer.Token, names ...string) bool {
	if !b.anyIn(stack.Table, names...) {
		b.blame(t)
		return false
	}
	b.clearToSection()
	b.open.Pop()
	b.mode = (*Builder).inTable
	return true
}

func (b *Builder) inRow(t lexer.Token) bool {
	switch {
	case opens(t, "th", "td"):
		b.clearTo("tr")
		b.insert(t)
		b.marks.Mark()
		b.mode = (*Builder).inCell
	case closes(t, "tr"):
		b.closeRow(t)
	case opens(t, "caption", "col", "colgroup", "tbody", "tfoot", "thead", "tr"), closes(t, "table"):
		return b.closeRow(t)
	case closes(t, "tbody", "tfoot", "thead") && b.open.In(stack.Table, t.Name):
		return b.closeRow(t)
	case closes(t, "tbody", "tfoot", "thead", "body", "caption", "col", "colgroup", "html", "td", "th"):
		b.blame(t)
	default:
		return b.inTable(t)
	}
	return false
}

// closeRow closes the row, where there is one in scope; is there?
func (b *Builder) closeRow(t lexer.Token) bool {
	if !b.open.In(stack.Table, "tr") {
		b.blame(t)
		return false
	}
	b.clearTo("tr")
	b.open.Pop()
	b.mode = (*Builder).inTableBody
	return true
}

func (b *Builder) inCell(t lexer.Token) bool {
	switch {
	case closes(t, "td", "th"):
		if b.closeIn(t, stack.Table, t.Name, "") {
			b.leaveCell()
		}
	case t.Kind == lexer.Open && isCellMark(t.Name):
		return b.closeCell(t)
	case closes(t, "table", "tbody", "tfoot", "thead", "tr") && b.open.In(stack.Table, t.Name):
		return b.closeCell(t)
	case closes(t, "table", "tbody", "tfoot", "thead", "tr", "body", "caption", "col", "colgroup", "html"):
		b.blame(t)
	default:
		return b.inBody(t)
	}
	return false
}

// closeCell closes the cell that something else than its end tag ends: that is to be looked at anew.
func (b *Builder) closeCell(t lexer.Token) bool {
	b.open.Implied("")
	if !isCell(b.top().Name) {
		b.blame(t)
	}
	b.popUntil(isCell)
	b.leaveCell()
	return true
}

func isCell(name string) bool { return is(name, "td", "th") }

func (b *Builder) leaveCell() {
	b.marks.Clear()
	b.mode = (*Builder).inRow
}

func (b *Builder) inCaption(t lexer.Token) bool {
	switch {
	case closes(t, "caption"):
		b.closeCaption(t)
	case t.Kind == lexer.Open && isCellMark(t.Name), closes(t, "table"):
		return b.closeCaption(t)
	case t.Kind == lexer.Close && isCellMark(t.Name), closes(t, "body", "html"):
		b.blame(t)
	default:
		return b.inBody(t)
	}
	return false
}

// closeCaption closes the caption, where it is in scope; is it?
func (b *Builder) closeCaption(t lexer.Token) bool {
	if !b.closeIn(t, stack.Table, "caption", "") {
		return false
	}
	b.marks.Clear()
	b.mode = (*Builder).inTable
	return true
}

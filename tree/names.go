package tree

import (
	"slices"

	"beadle/lexer"
)

// Void: has an element never any kids?
func Void(name string) bool {
	switch name {
	case "area", "base", "br", "col", "embed", "hr", "img", "input", "keygen",
		"link", "meta", "param", "source", "track", "wbr":
		return true
	}
	return false
}

func isTablePart(name string) bool {
	return isSection(name) || is(name, "table", "tr")
}

func isSection(name string) bool {
	return is(name, "tbody", "tfoot", "thead")
}

func isCellMark(name string) bool {
	switch name {
	case "caption", "col", "colgroup", "tbody", "td", "tfoot", "th", "thead", "tr":
		return true
	}
	return false
}

func isBlock(name string) bool {
	switch name {
	case "address", "article", "aside", "blockquote", "center", "details",
		"dialog", "dir", "div", "dl", "fieldset", "figcaption", "figure",
		"footer", "header", "main", "menu", "nav", "ol", "p", "search",
		"section", "summary", "ul", "pre", "listing":
		return true
	}
	return false
}

func isHeading(name string) bool {
	return is(name, "h1", "h2", "h3", "h4", "h5", "h6")
}

func isFormatting(name string) bool {
	switch name {
	case "b", "big", "code", "em", "font", "i", "s", "small", "strike",
		"strong", "tt", "u":
		return true
	}
	return false
}

// mayStayOpen: is it nothing wrong that such an element is open where the document ends?
func mayStayOpen(name string) bool {
	switch name {
	case "dd", "dt", "li", "optgroup", "option", "p", "tbody", "td", "tfoot",
		"th", "thead", "tr", "body", "html":
		return true
	}
	return false
}

func isBlank(t lexer.Token) bool {
	return t.Kind == lexer.Text && (t.Value == 0x09 || t.Value == 0x0A || t.Value == 0x0C || t.Value == 0x20)
}

// opens: is it the start tag of one of these?
func opens(t lexer.Token, names ...string) bool {
	return t.Kind == lexer.Open && is(t.Name, names...)
}

// closes: is it the end tag of one of these?
func closes(t lexer.Token, names ...string) bool {
	return t.Kind == lexer.Close && is(t.Name, names...)
}

// is: is the name one of these?
func is(name string, names ...string) bool {
	return slices.Contains(names, name)
}

package serial

import (
	"slices"

	"beadle/dom"
)

// rule tells what may stand under an element.
type rule struct {
	texts, comments bool
	may             func(name string) bool // may an element of that name?
}

func (r rule) allows(k kid) bool {
	switch k.Kind {
	case dom.Text:
		return r.texts
	case dom.Comment:
		return r.comments
	case dom.Element:
		return r.may(k.Name)
	}
	return false
}

// ruleUnder an element of that name, that may stand somewhere itself.
func ruleUnder(name string) rule {
	switch name {
	case "html":
		return rule{may: only("head", "body")}
	case "head":
		return rule{comments: true, may: only("base", "link", "meta", "title", "style", "script")}
	case "title", "style", "script":
		return rule{texts: true, may: only()} // a second text would stand beside the first
	case "ul", "ol":
		return rule{comments: true, may: only("li")}
	case "dl":
		return rule{comments: true, may: only("dt", "dd")}
	case "table":
		return rule{comments: true, may: only("tbody")}
	case "tbody":
		return rule{comments: true, may: only("tr")}
	case "tr":
		return rule{comments: true, may: only("td", "th")}
	case "base", "link", "meta", "br", "img", "wbr", "hr":
		return rule{may: only()}
	case "p", "h1", "h2", "h3", "h4", "h5", "h6", "dt":
		return rule{texts: true, comments: true, may: isPhrase}
	}
	if isPhrase(name) {
		return rule{texts: true, comments: true, may: isPhrase}
	}
	return rule{texts: true, comments: true, may: isFlow} // no others may stand anywhere
}

// only these names.
func only(names ...string) func(string) bool {
	return func(name string) bool { return slices.Contains(names, name) }
}

// isPhrase: may it stand within a line?
func isPhrase(name string) bool {
	switch name {
	case "span", "b", "i", "em", "strong", "code", "small", "s", "u", "label",
		"br", "img", "wbr":
		return true
	}
	return false
}

// isFlow: may it stand where lines and blocks do?
func isFlow(name string) bool {
	switch name {
	case "div", "section", "article", "aside", "header", "footer", "nav", "main",
		"blockquote", "p", "h1", "h2", "h3", "h4", "h5", "h6", "ul", "ol", "dl",
		"hr", "table":
		return true
	}
	return isPhrase(name)
}

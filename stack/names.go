package stack

// ends: does an element of that name end the scope? A scope without a number of its own is Usual.
func ends(scope int, name string) bool {
	switch name {
	case "html", "table", "template":
		return true
	case "td", "th", "caption", "marquee", "object", "applet":
		return scope != Table
	case "ol", "ul":
		return scope == List
	case "button":
		return scope == Button
	}
	return false
}

// implied: does an element of that name end by itself?
func implied(name string) bool {
	switch name {
	case "dd", "dt", "li", "option", "optgroup", "p", "rb", "rp", "rt", "rtc":
		return true
	}
	return false
}

// Special: is it one of the elements that formatting doesn't pass?
func Special(name string) bool {
	switch name {
	case "address", "applet", "area", "article", "aside", "base", "basefont",
		"bgsound", "blockquote", "body", "br", "button", "caption", "center",
		"col", "colgroup", "dd", "details", "dir", "div", "dl", "dt", "embed",
		"fieldset", "figcaption", "figure", "footer", "form", "frame",
		"frameset", "h1", "h2", "h3", "h4", "h5", "h6", "head", "header",
		"hgroup", "hr", "html", "iframe", "img", "input", "keygen", "li",
		"link", "listing", "main", "marquee", "menu", "meta", "nav", "noembed",
		"noframes", "noscript", "object", "ol", "p", "param", "plaintext",
		"pre", "script", "search", "section", "select", "source", "style",
		"summary", "table", "tbody", "td", "template", "textarea", "tfoot",
		"th", "thead", "title", "tr", "track", "ul", "wbr", "xmp":
		return true
	}
	return false
}

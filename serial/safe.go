package serial

import (
	"slices"
	"strings"

	"beadle/api"
	"beadle/decode"
	"beadle/dom"
)

// utf8 is layer 1's number of that coding, written anew since this layer doesn't lean on layer 1.
const utf8 = 1

// reader looks at a tree as its document will be read.
type reader struct {
	*dom.Tree
}

// kid is a node that stands under another one, and its number.
type kid struct {
	dom.Node
	number int
}

// Safe: is a tree one that its document gives again?
func Safe(t *dom.Tree) bool {
	r := reader{t}
	kids := r.kids(0)
	last := len(kids) - 1
	if last < 1 || kids[0].Kind != dom.Doctype || kids[0].Name != "html" {
		return false
	}
	for _, k := range kids[1:last] {
		if k.Kind != dom.Comment || !isSafeComment(k.Data) {
			return false
		}
	}
	return isElement(kids[last], "html") && r.hasOnly(kids[last], "head", "body") && r.isSafe(kids[last], 0)
}

func (r reader) kids(n int) []kid {
	var out []kid
	for _, number := range r.Kids(n) {
		node, _ := r.Get(number)
		out = append(out, kid{node, number})
	}
	return out
}

func isElement(k kid, name string) bool {
	return k.Kind == dom.Element && k.Name == name
}

// hasOnly: are the kids of that one elements of these names, in this order?
func (r reader) hasOnly(parent kid, names ...string) bool {
	return slices.EqualFunc(r.kids(parent.number), names, isElement)
}

// isSafe: a node, with so many elements around it, and all that stands under it.
func (r reader) isSafe(k kid, around int) bool {
	switch k.Kind {
	case dom.Text:
		return k.Data != "" && isRight(k.Data)
	case dom.Comment:
		return isSafeComment(k.Data)
	case dom.Element:
		return around < api.MaxDepth && areSafe(k.Attrs) && r.hasSafeKids(k, around+1)
	}
	return false
}

func (r reader) hasSafeKids(parent kid, around int) bool {
	rule := ruleUnder(parent.Name)
	ahead := kid{}
	for _, k := range r.kids(parent.number) {
		if !rule.allows(k) || ahead.Kind == dom.Text && k.Kind == dom.Text || !r.isSafe(k, around) {
			return false
		}
		if isRaw(parent.Name) && strings.Contains(small(k.Data), "</"+parent.Name) {
			return false
		}
		ahead = k
	}
	return true
}

// areSafe: the attributes of one element.
func areSafe(attrs []api.Attr) bool {
	seen := map[string]struct{}{}
	for _, a := range attrs {
		if !isSafeName(a.Name) || !isRight(a.Value) {
			return false
		}
		seen[a.Name] = struct{}{}
	}
	return len(seen) == len(attrs)
}

func isSafeName(s string) bool {
	for i := range len(s) {
		c := s[i]
		if (c < 'a' || c > 'z') && (c < '0' || c > '9') && c != '-' {
			return false
		}
	}
	return s != ""
}

func isSafeComment(s string) bool {
	if strings.HasPrefix(s, ">") || strings.HasPrefix(s, "->") {
		return false
	}
	return isRight(s) && !strings.Contains(s, "--") && !strings.HasSuffix(s, "-")
}

// isRight: does it stay as it is, when it is written and read?
func isRight(s string) bool {
	d := decode.New(utf8, 0)
	_, bad := d.Feed(s)
	_, left := d.End()
	return len(bad) == 0 && len(left) == 0 && !strings.ContainsAny(s, "\x00\r")
}

// small: with the letters A to Z made small, and no others: the reader of tags knows no others.
func small(s string) string {
	b := []byte(s)
	for i, c := range b {
		if c >= 'A' && c <= 'Z' {
			b[i] = c - 'A' + 'a'
		}
	}
	return string(b)
}

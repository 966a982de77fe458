package serial_test

import (
	"strings"

	"beadle/api"
	"beadle/dom"
)

// node is one to be made, and what is to stand under it.
type node struct {
	dom.Node
	kids []node
}

func doctype(name string) node { return node{Node: dom.Node{Kind: dom.Doctype, Name: name}} }

func text(data string) node { return node{Node: dom.Node{Kind: dom.Text, Data: data}} }

func comment(data string) node { return node{Node: dom.Node{Kind: dom.Comment, Data: data}} }

func element(name string, kids ...node) node {
	return node{Node: dom.Node{Kind: dom.Element, Name: name}, kids: kids}
}

// with attributes: a name, a value, and so on.
func (n node) with(parts ...string) node {
	for i := 0; i < len(parts); i += 2 {
		n.Attrs = append(n.Attrs, api.Attr{Name: parts[i], Value: parts[i+1]})
	}
	return n
}

// grown: a tree with these nodes under the document.
func grown(nodes ...node) *dom.Tree {
	d := dom.New()
	grow(d, 0, nodes)
	return d
}

func grow(d *dom.Tree, parent int, nodes []node) {
	for _, one := range nodes {
		n := d.Make(one.Node)
		d.Put(n, parent, -1)
		grow(d, n, one.kids)
	}
}

// page: a document with these nodes under body.
func page(body ...node) *dom.Tree {
	return headed(nil, body...)
}

func headed(head []node, body ...node) *dom.Tree {
	return grown(doctype("html"), element("html", element("head", head...), element("body", body...)))
}

func isOne(list, name string) bool {
	return name != "" && strings.Contains(" "+list+" ", " "+name+" ")
}

package tree_test

import (
	"fmt"
	"slices"
	"strings"
	"testing"

	"beadle/api"
	"beadle/dom"
	"beadle/lexer"
	"beadle/merge"
	"beadle/tree"
)

// doctype stands ahead of most documents of the tests; places are told from behind it.
const doctype = "<!DOCTYPE html>"

// runes of a text whose first byte has that place.
func runes(s string, at int) []api.Rune {
	var out []api.Rune
	for i, v := range s {
		out = append(out, api.Rune{Value: int(v), At: at + i})
	}
	return out
}

// shape writes a tree down: p[k="v"](kids), texts quoted, {comments}, !doctypes.
func shape(t *dom.Tree) string {
	return strings.Join(shapes(t, 0), " ")
}

func shapes(t *dom.Tree, n int) []string {
	var out []string
	for _, kid := range t.Kids(n) {
		node, _ := t.Get(kid)
		switch node.Kind {
		case dom.Doctype:
			out = append(out, "!"+node.Name)
		case dom.Text:
			out = append(out, fmt.Sprintf("%q", node.Data))
		case dom.Comment:
			out = append(out, "{"+node.Data+"}")
		case dom.Element:
			s := node.Name
			for _, a := range node.Attrs {
				s += fmt.Sprintf("[%s=%q]", a.Name, a.Value)
			}
			if kids := shapes(t, kid); kids != nil {
				s += "(" + strings.Join(kids, " ") + ")"
			}
			out = append(out, s)
		}
	}
	return out
}

// told writes down what is wrong, in order, each once.
func told(l []api.Diag) string {
	var out []string
	for _, d := range merge.Sort(l) {
		s := fmt.Sprintf("%s@%d", merge.Name(d.Code), d.At)
		if d.Node != "" {
			s += " in " + d.Node
		}
		out = append(out, s)
	}
	return strings.Join(out, " ")
}

// row is a document, its tree, and what is wrong with it.
type row struct{ text, tree, wrong string }

// checkDocuments: whole documents.
func checkDocuments(t *testing.T, rows []row) {
	t.Helper()
	for _, r := range rows {
		d, _, wrong := tree.Build(runes(r.text, 0), len(r.text))
		checkRow(t, r, shape(d), wrong)
	}
}

// checkBodies: documents whose doctype isn't in the rows; of the tree what is under body stands there.
func checkBodies(t *testing.T, rows []row) {
	t.Helper()
	for _, r := range rows {
		d, quirks, wrong := tree.Build(runes(doctype+r.text, -len(doctype)), len(r.text))
		if quirks {
			t.Errorf("%s: quirks", r.text)
		}
		checkRow(t, r, underBody(shape(d)), wrong)
	}
}

func checkRow(t *testing.T, r row, got string, wrong []api.Diag) {
	t.Helper()
	if got != r.tree {
		t.Errorf("%s\n got %s\nwant %s", r.text, got, r.tree)
	}
	if got := told(wrong); got != r.wrong {
		t.Errorf("%s\ntold %s\nwant %s", r.text, got, r.wrong)
	}
}

func underBody(s string) string {
	if rest, ok := strings.CutPrefix(s, "!html html(head body("); ok {
		return strings.TrimSuffix(rest, "))")
	}
	return s
}

// tokens of a whole text, all of it read as data.
func tokens(s string) []lexer.Token {
	l := lexer.New()
	l.Put(runes(s, 0))
	l.Close(len(s))
	var out []lexer.Token
	for t, ok := l.Next(); ok; t, ok = l.Next() {
		out = append(out, t)
	}
	return out
}

// fed: a Builder that was told these tokens.
func fed(list ...lexer.Token) *tree.Builder {
	b := tree.New()
	for _, t := range list {
		b.Token(t)
	}
	return b
}

func text(v, at int) lexer.Token {
	return lexer.Token{Kind: lexer.Text, Value: v, At: at}
}

func open(name string, at int) lexer.Token {
	return lexer.Token{Kind: lexer.Open, Name: name, At: at}
}

func isOne(list, name string) bool {
	return slices.Contains(strings.Fields(list), name)
}

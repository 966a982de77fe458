package dump

import (
	"slices"
	"strconv"
	"strings"

	"beadle/api"
	"beadle/dom"
)

// maxDigits of a depth.
const maxDigits = 4

// Read: the tree of such a text; with an error the number of the line.
func Read(s string) (*dom.Tree, int, api.Errno) {
	r := reader{tree: dom.New(), open: []int{0}}
	for number := 1; s != ""; number++ {
		text, rest, ended := strings.Cut(s, "\n")
		if !ended || !r.line(text) {
			return nil, number, api.ErrForm
		}
		s = rest
	}
	return r.tree, 0, api.OK
}

// reader has read some lines.
type reader struct {
	tree *dom.Tree
	open []int // the document, and the nodes down to the last one that was made
}

// line takes in a line, without its newline; false: it is none of Show's at that place.
func (r *reader) line(s string) bool {
	depth, s, ok := cutDepth(s)
	if !ok {
		return false
	}
	word, s, ok := strings.Cut(s, " ")
	if !ok {
		return false
	}
	first, s, ok := Unquote(s)
	if !ok {
		return false
	}
	if word == attrWord {
		return r.attr(depth, first, s)
	}
	list := words()
	kind := slices.Index(list[:], word)
	return kind > dom.Document && s == "" && r.node(depth, kind, first)
}

func (r *reader) attr(depth int, name, s string) bool {
	s, blank := strings.CutPrefix(s, " ")
	value, s, ok := Unquote(s)
	if !blank || !ok || s != "" || depth != len(r.open) {
		return false
	}
	// the last node is its Element, or one that can't have any
	return r.tree.Set(r.last(), api.Attr{Name: name, Value: value})
}

func (r *reader) node(depth, kind int, text string) bool {
	if depth > len(r.open) {
		return false
	}
	n := dom.Node{Kind: kind, Data: text}
	if hasName(kind) {
		n = dom.Node{Kind: kind, Name: text}
	}
	number := r.tree.Make(n)
	r.open = r.open[:depth]
	if r.tree.Put(number, r.last(), -1) != api.OK {
		return false // what stands ahead has no kids
	}
	r.open = append(r.open, number)
	return true
}

func (r *reader) last() int {
	return r.open[len(r.open)-1]
}

// cutDepth reads the number, from 1 on, and the blank that a line begins with.
func cutDepth(s string) (int, string, bool) {
	digits, rest, ok := strings.Cut(s, " ")
	if !ok || len(digits) > maxDigits {
		return 0, "", false
	}
	depth, err := strconv.Atoi(digits)
	if err != nil || depth < 1 || strconv.Itoa(depth) != digits {
		return 0, "", false
	}
	return depth, rest, true
}

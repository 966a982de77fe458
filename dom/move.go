package dom

import (
	"slices"
	"unicode/utf8"

	"beadle/api"
)

// Put: a node under another one, ahead of one of its kids, or behind them all.
func (t *Tree) Put(n, parent, before int) api.Errno {
	if !t.movable(n) || !t.isPlace(parent, before) || before == n || t.isIn(parent, n) {
		return api.ErrArg
	}
	t.takeAway(n)
	t.insert(n, parent, t.index(parent, before))
	return api.OK
}

// Take: a node away from where it stands.
func (t *Tree) Take(n int) api.Errno {
	if !t.movable(n) {
		return api.ErrArg
	}
	t.takeAway(n)
	return api.OK
}

// Hand: all kids of a node to another one, behind its own.
func (t *Tree) Hand(from, to int) api.Errno {
	if !t.mayHaveKids(from) || !t.mayHaveKids(to) || t.isIn(to, from) {
		return api.ErrArg
	}
	t.eachKid(from, 0, func(kid int) {
		t.insert(kid, to, len(t.cells[to].kids))
	})
	t.cells[from].kids = nil
	return api.OK
}

// Write: a scalar as text, ahead of a kid, or behind them all.
func (t *Tree) Write(v, at, parent, before int) api.Errno {
	if !t.isPlace(parent, before) || !isScalar(v) {
		return api.ErrArg
	}
	place := t.index(parent, before)
	if place == 0 || !t.isText(t.cells[parent].kids[place-1]) {
		t.insert(t.Make(Node{Kind: Text, At: at}), parent, place)
		place++
	}
	text := &t.cells[t.cells[parent].kids[place-1]]
	text.more = utf8.AppendRune(text.more, rune(v))
	return api.OK
}

// movable tells a node that there is, but for the document, which stands nowhere.
func (t *Tree) movable(n int) bool {
	return t.has(n) && n != 0
}

// isPlace: could a new node stand there?
func (t *Tree) isPlace(parent, before int) bool {
	if !t.mayHaveKids(parent) {
		return false
	}
	return before == nowhere || t.has(before) && t.cells[before].parent == parent
}

// index: how many kids of the parent stand ahead of that place.
func (t *Tree) index(parent, before int) int {
	if before == nowhere {
		return len(t.cells[parent].kids)
	}
	return t.cells[before].ahead
}

// isIn: is n the other node, or does it stand anywhere under it?
func (t *Tree) isIn(n, other int) bool {
	if len(t.cells[other].kids) == 0 {
		return n == other // most nodes that are put are new: no need to go up
	}
	for n != nowhere && n != other {
		n = t.cells[n].parent
	}
	return n == other
}

func (t *Tree) isText(n int) bool {
	return t.cells[n].node.Kind == Text
}

func (t *Tree) takeAway(n int) {
	c := &t.cells[n]
	if c.parent == nowhere {
		return
	}
	parent, place := c.parent, c.ahead
	c.parent, c.ahead = nowhere, 0
	t.cells[parent].kids = slices.Delete(t.cells[parent].kids, place, place+1)
	t.eachKid(parent, place, func(kid int) { t.cells[kid].ahead-- })
}

func (t *Tree) insert(n, parent, place int) {
	t.cells[n].parent, t.cells[n].ahead = parent, place
	t.cells[parent].kids = slices.Insert(t.cells[parent].kids, place, n)
	t.eachKid(parent, place+1, func(kid int) { t.cells[kid].ahead++ })
}

func isScalar(v int) bool {
	return v >= 0 && v <= utf8.MaxRune && (v < 0xD800 || v > 0xDFFF)
}

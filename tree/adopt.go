package tree

import (
	"beadle/api"
	"beadle/lexer"
	"beadle/marks"
	"beadle/stack"
)

const (
	mostRounds = 8 // of one adoption
	mostKept   = 3 // elements of formatting that one round makes anew
)

// adopt closes an element of formatting; what blocks it isn't the last one in get elements like it of their own.
func (b *Builder) adopt(t lexer.Token, name string) {
	if top := b.top(); top.Name == name && !b.marks.has(top.Node) {
		b.open.Pop()
		return
	}
	for round := range mostRounds {
		if !b.adoptOnce(t, name, round == 0) {
			return
		}
	}
}

// adoptOnce is one round; false, where there is no further one.
func (b *Builder) adoptOnce(t lexer.Token, name string, first bool) bool {
	mark := b.marks.Last(name)
	if mark < 0 {
		b.closeUsual(t, name)
		return false
	}
	node := b.marks.Entries()[mark].Node
	at := b.open.Find(node)
	if at < 0 {
		b.tell(api.MisnestedFormatting, t)
		b.marks.Cut(mark)
		return false
	}
	if !b.open.In(stack.Usual, name) {
		b.tell(api.MisnestedFormatting, t)
		return false
	}
	if first && b.top().Node != node {
		b.tell(api.MisnestedFormatting, t)
	}
	items := b.open.Items()
	furthest := firstSpecial(items, at+1)
	if furthest < 0 {
		b.popNode(node)
		b.marks.Cut(mark)
		return false
	}
	a := adoption{Builder: b, t: t, items: items[:furthest+1], at: at, mark: mark}
	a.put(a.between(), a.placeUnder(items[at-1], true))
	a.closed()
	return true
}

// firstSpecial is the place of the first one from there on that formatting doesn't pass; -1.
func firstSpecial(items []stack.Item, from int) int {
	for at := from; at < len(items); at++ {
		if stack.Special(items[at].Name) {
			return at
		}
	}
	return -1
}

// adoption is one round that moves something.
type adoption struct {
	*Builder
	t     lexer.Token
	items []stack.Item // what was open, up to the furthest block
	at    int          // of items, the element that is closed
	mark  int          // the place of what will stand for it among the marks
}

func (a *adoption) block() stack.Item { return a.items[len(a.items)-1] }

// between goes up from the furthest block to the element that is closed, and answers the outermost one that goes along.
func (a *adoption) between() int {
	last := a.block().Node
	for at := len(a.items) - 2; at > a.at; at-- {
		// It was opened behind the one that is closed: if it is marked, that is behind the last marker too.
		mark := a.marks.Find(a.items[at].Node)
		if mark >= 0 && len(a.items)-1-at > mostKept {
			a.unmark(mark)
			mark = -1
		}
		if mark < 0 {
			a.open.Cut(at)
			continue
		}
		anew := a.again(a.items[at].Node)
		a.open.Cut(at)
		a.open.Lay(at, stack.Item{Node: anew.Node, Name: anew.Name})
		a.marks.Swap(mark, anew)
		if last == a.block().Node {
			a.mark = mark + 1
		}
		a.put(last, place{anew.Node, behind})
		last = anew.Node
	}
	return last
}

// closed lays an element like the one that is closed under the furthest block, around all that is there.
func (a *adoption) closed() {
	old := a.items[a.at].Node
	block := a.block().Node
	anew := a.again(old)
	a.tree.Hand(block, anew.Node)
	a.put(anew.Node, place{block, behind})
	a.unmark(a.marks.Find(old))
	a.marks.Lay(a.mark, anew)
	a.open.Cut(a.at)
	a.open.Lay(a.open.Find(block)+1, stack.Item{Node: anew.Node, Name: anew.Name})
}

// again makes an element like another one, and what stands for it among the marks.
func (a *adoption) again(node int) marks.Entry {
	like, _ := a.tree.Get(node)
	made := a.makeElement(like.Name, like.Attrs, a.t)
	return marks.Entry{Node: made.Node, Name: like.Name, Attrs: like.Attrs}
}

// unmark takes away a mark, and keeps the noted place where it was.
func (a *adoption) unmark(mark int) {
	a.marks.Cut(mark)
	if mark < a.mark {
		a.mark--
	}
}

package auto

import "beadle/expr"

// test is what an expression asks of an item. The kind stands by the word, as an element may be named like a category's test.
type test struct {
	kind int
	word string
}

func (t test) show() string {
	return expr.Show(expr.Expr{Kind: t.kind, Word: t.word})
}

// nothing is the test of a node that asks nothing of an item.
const nothing = -1

// end is the node behind the whole expression.
const end = 0

// node is a place in an expression: behind its test, or at once where it asks nothing, one of its ways is gone on.
type node struct {
	test int
	ways []int
}

func (a *Auto) add(test int, ways ...int) int {
	a.nodes = append(a.nodes, node{test, ways})
	return len(a.nodes) - 1
}

// lay lays an expression ahead of a node, and answers where it starts.
func (a *Auto) lay(e expr.Expr, next int) int {
	switch e.Kind {
	case expr.Name, expr.Category, expr.Text:
		return a.add(a.numbered(test{e.Kind, e.Word}), next)
	case expr.Alt:
		var ways []int
		for _, kid := range e.Kids {
			ways = append(ways, a.lay(kid, next))
		}
		return a.add(nothing, ways...)
	case expr.Maybe:
		return a.add(nothing, next, a.layRow(e.Kids, next))
	case expr.Star:
		again, _ := a.layAgain(e.Kids, next)
		return again
	case expr.Plus:
		_, kid := a.layAgain(e.Kids, next)
		return kid
	}
	return a.layRow(e.Kids, next)
}

// layRow lays expressions one behind the other.
func (a *Auto) layRow(row []expr.Expr, next int) int {
	for i := len(row) - 1; i >= 0; i-- {
		next = a.lay(row[i], next)
	}
	return next
}

// layAgain lays what may stand any number of times: the node at which that is chosen, and where the first time starts.
func (a *Auto) layAgain(row []expr.Expr, next int) (again, kid int) {
	again = a.add(nothing, next)
	kid = a.layRow(row, again)
	a.nodes[again].ways = append(a.nodes[again].ways, kid)
	return again, kid
}

// numbered: the number of a test, of a new one too.
func (a *Auto) numbered(t test) int {
	n, ok := a.number[t]
	if !ok {
		n = len(a.tests)
		a.tests = append(a.tests, t)
		a.number[t] = n
	}
	return n
}

package auto

import (
	"beadle/api"
	"beadle/expr"
)

// state is all that the items so far leave open.
type state struct {
	at    []int             // the nodes that ask something of the next item, rising
	whole bool              // may the row end here?
	steps map[string]*state // by the tests that the next item passes
}

func (s *state) dead() bool {
	return len(s.at) == 0 && !s.whole
}

// walk: how many items lead on from the start, and the state behind these.
func (a *Auto) walk(row []Item) (int, *state) {
	if a.first == nil {
		a.first = a.reach([]int{a.start})
	}
	s := a.first
	var passed []byte
	for n, item := range row {
		passed = a.passed(passed, item)
		next := a.step(s, passed)
		if next.dead() {
			return n, s
		}
		s = next
	}
	return len(row), s
}

// passed: the tests that an item passes, a bit each, in the room of buf.
func (a *Auto) passed(buf []byte, item Item) []byte {
	if buf == nil {
		buf = make([]byte, len(a.tests)/8+1)
	}
	clear(buf)
	pass := func(kind int, word string) {
		if n, ok := a.number[test{kind, word}]; ok {
			buf[n/8] |= 1 << (n % 8)
		}
	}
	if item.Text {
		pass(expr.Text, "")
		return buf
	}
	pass(expr.Name, item.Name)
	for _, cat := range item.Cats {
		pass(expr.Category, cat)
	}
	return buf
}

// step: the state behind one more item.
func (a *Auto) step(s *state, passed []byte) *state {
	if next := s.steps[string(passed)]; next != nil {
		return next
	}
	var ways []int
	for _, k := range s.at {
		n := a.nodes[k]
		if passed[n.test/8]>>(n.test%8)&1 == 1 {
			ways = append(ways, n.ways...)
		}
	}
	next := a.reach(ways)
	if len(s.steps) == api.MaxStates { // as many kinds of items may come as there are sets of tests
		clear(s.steps)
	}
	s.steps[string(passed)] = next
	return next
}

// reach: the state of all nodes to which some lead without an item.
func (a *Auto) reach(open []int) *state {
	seen := make([]bool, len(a.nodes))
	for len(open) > 0 {
		k := open[len(open)-1]
		open = open[:len(open)-1]
		if !seen[k] {
			seen[k] = true
			if a.nodes[k].test == nothing {
				open = append(open, a.nodes[k].ways...)
			}
		}
	}
	var at []int
	for k, is := range seen {
		if is && a.nodes[k].test != nothing {
			at = append(at, k)
		}
	}
	return a.kept(at, seen[end])
}

// kept: the state that is kept of these nodes, or a new one.
func (a *Auto) kept(at []int, whole bool) *state {
	key := keyOf(at, whole)
	if s := a.states[key]; s != nil {
		return s
	}
	if len(a.states) == api.MaxStates {
		clear(a.states)
		a.first = nil // with its steps it would keep what was given up
	}
	s := &state{at: at, whole: whole, steps: map[string]*state{}}
	a.states[key] = s
	return s
}

// keyOf: two bytes a node are enough, as there are no more nodes than layer 14 spreads, and the end.
func keyOf(at []int, whole bool) string {
	key := make([]byte, 0, 2*len(at)+1)
	for _, k := range at {
		key = append(key, byte(k>>8), byte(k))
	}
	if whole {
		key = append(key, 1)
	}
	return string(key)
}

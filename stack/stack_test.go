package stack_test

import (
	"math"
	"slices"
	"strings"
	"testing"

	"beadle/stack"
)

// of is a stack of elements of these names, whose nodes are numbered from 0 on.
func of(names string) *stack.Stack {
	var s stack.Stack
	for i, n := range strings.Fields(names) {
		s.Push(stack.Item{Node: i, Name: n})
	}
	return &s
}

func names(list []stack.Item) string {
	var all []string
	for _, i := range list {
		all = append(all, i.Name)
	}
	return strings.Join(all, " ")
}

func wantItems(t *testing.T, what string, got []stack.Item, want ...stack.Item) {
	t.Helper()
	if !slices.Equal(got, want) {
		t.Errorf("%s: %v, want %v", what, got, want)
	}
}

// P9.1
func TestZeroStackIsEmpty(t *testing.T) {
	var s stack.Stack
	wantItems(t, "Items", s.Items())
	if i, ok := s.Top(); ok || i != (stack.Item{}) {
		t.Errorf("Top: %v, %v", i, ok)
	}
	if i, ok := s.Pop(); ok || i != (stack.Item{}) {
		t.Errorf("Pop: %v, %v", i, ok)
	}
	if s.Find(0) != -1 || s.Cut(0) || s.In(stack.Usual, "") {
		t.Error("Find, Cut, In")
	}
	wantItems(t, "Until", s.Until("p"))
	wantItems(t, "Implied", s.Implied(""))
	wantItems(t, "Items", s.Items())
}

// P9.1
func TestPushAndPop(t *testing.T) {
	var s stack.Stack
	all := []stack.Item{{Node: 4, Name: "a"}, {}, {Node: math.MinInt, Name: "b\x00\xff"}, {Node: 4, Name: "a"}, {Node: math.MaxInt}}
	for n, i := range all {
		s.Push(i)
		wantItems(t, "Items", s.Items(), all[:n+1]...)
		if top, ok := s.Top(); !ok || top != i {
			t.Errorf("Top: %v, %v, want %v", top, ok, i)
		}
	}
	for n := len(all) - 1; n >= 0; n-- {
		if i, ok := s.Pop(); !ok || i != all[n] {
			t.Errorf("Pop: %v, %v, want %v", i, ok, all[n])
		}
		wantItems(t, "Items", s.Items(), all[:n]...)
	}
	if i, ok := s.Pop(); ok || i != (stack.Item{}) {
		t.Errorf("Pop: %v, %v", i, ok)
	}
	s.Push(all[0])
	wantItems(t, "pushed again", s.Items(), all[0])
}

// P9.1
func TestFind(t *testing.T) {
	var s stack.Stack
	for _, n := range []int{7, -1, 7, 0, math.MinInt, 5} {
		s.Push(stack.Item{Node: n, Name: "a"})
	}
	rows := []struct{ node, want int }{{7, 2}, {-1, 1}, {0, 3}, {math.MinInt, 4}, {5, 5}, {1, -1}, {math.MaxInt, -1}, {-2, -1}}
	for _, r := range rows {
		if got := s.Find(r.node); got != r.want {
			t.Errorf("Find(%d): %d, want %d", r.node, got, r.want)
		}
	}
}

// P9.1
func TestCut(t *testing.T) {
	rows := []struct {
		at   int
		ok   bool
		left string
	}{
		{0, true, "b c"}, {1, true, "a c"}, {2, true, "a b"},
		{3, false, "a b c"}, {-1, false, "a b c"}, {math.MinInt, false, "a b c"}, {math.MaxInt, false, "a b c"},
	}
	for _, r := range rows {
		s := of("a b c")
		if ok := s.Cut(r.at); ok != r.ok || names(s.Items()) != r.left {
			t.Errorf("Cut(%d): %v, %s", r.at, ok, names(s.Items()))
		}
	}
}

// P9.1
func TestLay(t *testing.T) {
	rows := []struct {
		at   int
		ok   bool
		then string
	}{
		{0, true, "x a b c"}, {1, true, "a x b c"}, {2, true, "a b x c"}, {3, true, "a b c x"},
		{4, false, "a b c"}, {-1, false, "a b c"}, {math.MinInt, false, "a b c"}, {math.MaxInt, false, "a b c"},
	}
	for _, r := range rows {
		s := of("a b c")
		if ok := s.Lay(r.at, stack.Item{Node: 9, Name: "x"}); ok != r.ok || names(s.Items()) != r.then {
			t.Errorf("Lay(%d): %v, %s", r.at, ok, names(s.Items()))
		}
		if ok := s.Find(9); r.ok && ok != r.at {
			t.Errorf("laid at %d, found at %d", r.at, ok)
		}
	}
	var s stack.Stack
	if s.Lay(1, stack.Item{Name: "x"}) || !s.Lay(0, stack.Item{Name: "x"}) || names(s.Items()) != "x" {
		t.Error("laid on an empty stack")
	}
}

// P9.1
func TestNilStack(t *testing.T) {
	var s *stack.Stack
	s.Push(stack.Item{Name: "p"})
	wantItems(t, "Items", s.Items())
	wantItems(t, "Until", s.Until("p"))
	wantItems(t, "Implied", s.Implied("p"))
	if i, ok := s.Pop(); ok || i != (stack.Item{}) {
		t.Errorf("Pop: %v, %v", i, ok)
	}
	if i, ok := s.Top(); ok || i != (stack.Item{}) {
		t.Errorf("Top: %v, %v", i, ok)
	}
	if s.Find(0) != -1 || s.Cut(0) || s.Lay(0, stack.Item{}) || s.In(stack.Usual, "p") || s.In(stack.Table, "") {
		t.Error("Find, Cut, Lay, In")
	}
}

// P9.1, P9.3: an answer shares no memory with the stack, nor with another answer.
func TestAnswersAreNew(t *testing.T) {
	s := of("html body p li")
	one, two := s.Items(), s.Items()
	one[0].Name = "x"
	_ = append(one[:1], stack.Item{Name: "y"})
	if names(two) != "html body p li" || names(s.Items()) != "html body p li" {
		t.Error("Items shares memory")
	}
	gone := s.Implied("p")
	s.Push(stack.Item{Node: 8, Name: "b"})
	if names(gone) != "li" {
		t.Errorf("Implied shares memory: %v", gone)
	}
	gone = s.Until("p")
	s.Push(stack.Item{Node: 9, Name: "i"})
	s.Push(stack.Item{Node: 10, Name: "u"})
	if names(gone) != "b p" {
		t.Errorf("Until shares memory: %v", gone)
	}
	gone[0].Name, gone[1].Name = "x", "y"
	if names(s.Items()) != "html body i u" {
		t.Errorf("%v", s.Items())
	}
}

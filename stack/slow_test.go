package stack_test

import (
	"math/rand"
	"strings"
	"testing"

	"beadle/stack"
)

// slow is a stack by the chapter's words, each call on a new list.
type slow []stack.Item

func (s slow) in(scope int, name string) bool {
	list := usualEnds
	switch scope {
	case stack.List:
		list += " ol ul"
	case stack.Button:
		list += " button"
	case stack.Table:
		list = tableEnds
	}
	for i := range s {
		one := s[len(s)-1-i].Name
		if one == name {
			return true
		}
		if isOne(list, one) {
			return false
		}
	}
	return false
}

func (s slow) find(node int) int {
	at := -1
	for i, one := range s {
		if one.Node == node {
			at = i
		}
	}
	return at
}

func (s slow) cut(at int) (slow, bool) {
	if at < 0 || at >= len(s) {
		return s, false
	}
	return append(append(slow{}, s[:at]...), s[at+1:]...), true
}

func (s slow) lay(at int, i stack.Item) (slow, bool) {
	if at < 0 || at > len(s) {
		return s, false
	}
	return append(append(append(slow{}, s[:at]...), i), s[at:]...), true
}

func (s slow) until(name string) (slow, []stack.Item) {
	var gone []stack.Item
	for len(s) > 0 {
		top := s[len(s)-1]
		gone = append(gone, top)
		s = s[:len(s)-1]
		if top.Name == name {
			break
		}
	}
	return s, gone
}

func (s slow) implied(but string) (slow, []stack.Item) {
	var gone []stack.Item
	for len(s) > 0 && isOne(impliedOnes, s[len(s)-1].Name) && s[len(s)-1].Name != but {
		gone = append(gone, s[len(s)-1])
		s = s[:len(s)-1]
	}
	return s, gone
}

// step does one thing to both, by the numbers r, and tells the slow one as it is then.
func step(t *testing.T, fast *stack.Stack, s slow, r *rand.Rand, pick func() string) slow {
	t.Helper()
	item, at, name := stack.Item{Node: r.Intn(6), Name: pick()}, r.Intn(len(s)+4)-2, pick()
	var ok, want bool
	switch r.Intn(9) {
	case 0, 1, 2, 3:
		fast.Push(item)
		s = append(append(slow{}, s...), item)
	case 4:
		var last stack.Item
		got, done := fast.Pop()
		if ok, want = done, len(s) > 0; want {
			last, s = s[len(s)-1], s[:len(s)-1]
		}
		if got != last {
			t.Fatalf("Pop: %v, want %v", got, last)
		}
	case 5:
		ok = fast.Cut(at)
		s, want = s.cut(at)
	case 6:
		ok = fast.Lay(at, item)
		s, want = s.lay(at, item)
	case 7:
		var gone []stack.Item
		before := s
		s, gone = s.until(name)
		wantItems(t, "Until("+name+") of "+names(before), fast.Until(name), gone...)
	case 8:
		var gone []stack.Item
		before := s
		s, gone = s.implied(name)
		wantItems(t, "Implied("+name+") of "+names(before), fast.Implied(name), gone...)
	}
	if ok != want {
		t.Fatalf("%v, want %v, at %d of %d", ok, want, at, len(s))
	}
	return s
}

// P9.1 to P9.3, beside the slow stack.
func TestBesideSlowStack(t *testing.T) {
	some := strings.Fields("html p li dd b table td ol button object option tr")
	for seed := range int64(400) {
		r := rand.New(rand.NewSource(seed))
		pick := func() string { return some[r.Intn(len(some))] }
		var fast stack.Stack
		var s slow
		for range 60 {
			s = step(t, &fast, s, r, pick)
			wantItems(t, "Items", fast.Items(), s...)
			node, scope, name := r.Intn(7), r.Intn(6)-1, pick()
			if fast.Find(node) != s.find(node) {
				t.Fatalf("%v: Find(%d): %d", s, node, fast.Find(node))
			}
			if fast.In(scope, name) != s.in(scope, name) {
				t.Fatalf("%s: In(%d, %s): %v", names(s), scope, name, fast.In(scope, name))
			}
			top, ok := fast.Top()
			if ok != (len(s) > 0) || ok && top != s[len(s)-1] || !ok && top != (stack.Item{}) {
				t.Fatalf("Top: %v, %v", top, ok)
			}
		}
	}
}

package stack_test

import (
	"math"
	"strings"
	"testing"

	"beadle/stack"
)

const (
	tableEnds   = "html table template"
	usualEnds   = tableEnds + " td th caption marquee object applet"
	impliedOnes = "dd dt li option optgroup p rb rp rt rtc"
	specialOnes = "address applet area article aside base basefont bgsound blockquote body br button caption center col colgroup dd details dir div dl dt embed fieldset figcaption figure footer form frame frameset h1 h2 h3 h4 h5 h6 head header hgroup hr html iframe img input keygen li link listing main marquee menu meta nav noembed noframes noscript object ol p param plaintext pre script search section select source style summary table tbody td template textarea tfoot th thead title tr track ul wbr xmp"
)

// usual are names of elements that stand in none of the lists, or nearly are one of them.
func usual() []string {
	return []string{"", "a", "b", "i", "em", "span", "label", "dialog", "ruby", "svg", "math", "nobr",
		"h", "h0", "h7", "H1", "P", "HTML", "Table", " p", "p ", "p\x00", "tables", "tabl", "rtcs", "optgroups", "\xff"}
}

func every() []string {
	all := append(strings.Fields(specialOnes), strings.Fields(impliedOnes)...)
	return append(all, usual()...)
}

func isOne(list, name string) bool {
	for _, n := range strings.Fields(list) {
		if n == name {
			return true
		}
	}
	return false
}

// P9.2
func TestScopesAreNumbered(t *testing.T) {
	for want, got := range []int{stack.Usual, stack.List, stack.Button, stack.Table} {
		if got != want {
			t.Errorf("scope %d: %d", want, got)
		}
	}
}

// P9.2: the names that end each scope, and none beside them.
func TestScopesEnd(t *testing.T) {
	ends := map[int]string{
		stack.Usual: usualEnds, stack.List: usualEnds + " ol ul", stack.Button: usualEnds + " button", stack.Table: tableEnds,
		4: usualEnds, -1: usualEnds, math.MaxInt: usualEnds, math.MinInt: usualEnds,
	}
	for scope, list := range ends {
		for _, n := range every() {
			var s stack.Stack
			s.Push(stack.Item{Name: "wanted"})
			s.Push(stack.Item{Name: n})
			s.Push(stack.Item{Name: "b"})
			if got := s.In(scope, "wanted"); got == isOne(list, n) {
				t.Errorf("scope %d, %q: %v", scope, n, got)
			}
			if !s.In(scope, n) {
				t.Errorf("scope %d: %q isn't in its own scope", scope, n)
			}
			if s.In(scope, "none") {
				t.Errorf("scope %d, %q: what isn't there is in scope", scope, n)
			}
		}
	}
}

// P9.2
func TestIn(t *testing.T) {
	rows := []struct {
		open  string
		scope int
		name  string
		want  bool
	}{
		{"html p b", stack.Usual, "p", true}, {"html p b", stack.Usual, "li", false}, // the chapter's example
		{"html p b", stack.Usual, "html", true},
		{"p", stack.Usual, "p", true}, {"b b b", stack.Usual, "p", false},
		{"html p table b", stack.Usual, "p", false}, {"html p table p", stack.Usual, "p", true},
		{"html p button b", stack.Button, "p", false}, {"html p button b", stack.Usual, "p", true}, {"html p button b", stack.List, "p", true},
		{"html li ul b", stack.List, "li", false}, {"html li ol b", stack.List, "li", false}, {"html li ul b", stack.Usual, "li", true}, {"html li ul b", stack.Button, "li", true},
		{"html tr td object b", stack.Table, "tr", true}, {"html tr td b", stack.Usual, "tr", false}, {"html tr table b", stack.Table, "tr", false},
		{"html tr button ul ol b", stack.Table, "tr", true}, {"html tr template b", stack.Table, "tr", false},
		{"html body p", stack.Table, "table", false},
	}
	for _, r := range rows {
		s := of(r.open)
		if got := s.In(r.scope, r.name); got != r.want {
			t.Errorf("%s: In(%d, %s): %v", r.open, r.scope, r.name, got)
		}
		if names(s.Items()) != r.open {
			t.Errorf("In changed %s", r.open)
		}
	}
}

// P9.3
func TestUntil(t *testing.T) {
	rows := []struct{ open, name, gone, left string }{
		{"html body p b i", "p", "i b p", "html body"},
		{"html body p b i", "i", "i", "html body p b"},
		{"html p p b", "p", "b p", "html p"},
		{"html p b", "html", "b p html", ""},
		{"html table td p", "x", "p td table html", ""},
		{"html p table td", "p", "td table p", "html"},
		{"html p", "", "p html", ""},
		{"", "p", "", ""},
	}
	for _, r := range rows {
		s := of(r.open)
		if gone := names(s.Until(r.name)); gone != r.gone || names(s.Items()) != r.left {
			t.Errorf("%s: Until(%s): %s, left %s", r.open, r.name, gone, names(s.Items()))
		}
	}
	s := of("html p b i")
	wantItems(t, "Until", s.Until("p"), stack.Item{Node: 3, Name: "i"}, stack.Item{Node: 2, Name: "b"}, stack.Item{Node: 1, Name: "p"})
}

// P9.3
func TestImplied(t *testing.T) {
	rows := []struct{ open, but, gone, left string }{
		{"html p li dd", "", "dd li p", "html"},
		{"html p li dd", "li", "dd", "html p li"},
		{"html p li dd", "dd", "", "html p li dd"},
		{"html p b li", "", "li", "html p b"},
		{"html p b", "", "", "html p b"},
		{"html p", "b", "p", "html"},
		{"p li p li", "", "li p li p", ""},
		{"p li p li", "p", "li", "p li p"},
		{"", "", "", ""},
	}
	for _, r := range rows {
		s := of(r.open)
		if gone := names(s.Implied(r.but)); gone != r.gone || names(s.Items()) != r.left {
			t.Errorf("%s: Implied(%s): %s, left %s", r.open, r.but, gone, names(s.Items()))
		}
	}
	s := of("html p li")
	wantItems(t, "Implied", s.Implied("x"), stack.Item{Node: 2, Name: "li"}, stack.Item{Node: 1, Name: "p"})
}

// P9.3: the names that end by themselves, and none beside them.
func TestImpliedNames(t *testing.T) {
	for _, n := range every() {
		var s stack.Stack
		s.Push(stack.Item{Name: "html"})
		s.Push(stack.Item{Name: n})
		want := 0
		if isOne(impliedOnes, n) {
			want = 1
		}
		if got := s.Implied(n); len(got) != 0 {
			t.Errorf("%q: Implied of itself: %v", n, got)
		}
		if got := s.Implied("x"); len(got) != want {
			t.Errorf("%q: Implied: %v", n, got)
		}
	}
}

// P9.4
func TestSpecial(t *testing.T) {
	for _, n := range every() {
		if got := stack.Special(n); got != isOne(specialOnes, n) {
			t.Errorf("Special(%q): %v", n, got)
		}
	}
	for _, n := range []string{"option", "optgroup", "rb", "rp", "rt", "rtc"} {
		if stack.Special(n) {
			t.Errorf("Special(%q)", n)
		}
	}
	if n := len(strings.Fields(specialOnes)); n != 83 {
		t.Errorf("%d special names", n)
	}
}

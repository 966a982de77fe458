package marks_test

import (
	"math/rand"
	"testing"

	"beadle/marks"
)

// slow is a list by the chapter's words, each call on a new list.
type slow []marks.Entry

func alike(a, b marks.Entry) bool {
	if a.Name != b.Name || len(a.Attrs) != len(b.Attrs) {
		return false
	}
	for _, one := range a.Attrs {
		found := false
		for _, other := range b.Attrs {
			found = found || one == other
		}
		if !found {
			return false
		}
	}
	return true
}

// behind tells the place behind the last marker.
func (s slow) behind() int {
	at := 0
	for i, e := range s {
		if e.Node == -1 {
			at = i + 1
		}
	}
	return at
}

func (s slow) cut(at int) (slow, bool) {
	if at < 0 || at >= len(s) {
		return s, false
	}
	return append(append(slow{}, s[:at]...), s[at+1:]...), true
}

func (s slow) lay(at int, e marks.Entry) (slow, bool) {
	if at < 0 || at > len(s) {
		return s, false
	}
	return append(append(append(slow{}, s[:at]...), e), s[at:]...), true
}

func (s slow) swap(at int, e marks.Entry) (slow, bool) {
	s, ok := s.cut(at)
	if ok {
		s, _ = s.lay(at, e)
	}
	return s, ok
}

func (s slow) add(e marks.Entry) slow {
	var same []int
	for i := s.behind(); i < len(s) && e.Node != -1; i++ {
		if alike(s[i], e) {
			same = append(same, i)
		}
	}
	if len(same) >= 3 {
		s, _ = s.cut(same[0])
	}
	s, _ = s.lay(len(s), e)
	return s
}

func (s slow) clear() slow {
	return append(slow{}, s[:max(s.behind()-1, 0)]...)
}

func (s slow) lastOf(name string) int {
	at := -1
	for i := s.behind(); i < len(s); i++ {
		if s[i].Name == name {
			at = i
		}
	}
	return at
}

func (s slow) find(node int) int {
	at := -1
	for i, e := range s {
		if e.Node == node && node != -1 {
			at = i
		}
	}
	return at
}

func (s slow) rest(open []int) int {
	stays := func(e marks.Entry) bool {
		for _, n := range open {
			if e.Node == n {
				return true
			}
		}
		return e.Node == -1
	}
	if len(s) == 0 || stays(s[len(s)-1]) {
		return len(s)
	}
	for i := len(s) - 1; i > 0; i-- {
		if stays(s[i-1]) {
			return i
		}
	}
	return 0
}

// step does one thing to both, and tells the slow one as it is then.
func step(t *testing.T, fast *marks.List, s slow, r *rand.Rand) slow {
	t.Helper()
	kinds := []string{"", "", "x=1", "x=1 y=2", "y=2 x=1"}
	e := entry(r.Intn(12)-1, []string{"b", "i"}[r.Intn(2)], kinds[r.Intn(len(kinds))])
	at := r.Intn(len(s)+4) - 2
	var ok, want bool
	switch r.Intn(16) {
	case 0:
		fast.Clear()
		s = s.clear()
	case 1:
		fast.Mark()
		s, _ = s.lay(len(s), marks.Entry{Node: -1})
	case 2, 3:
		ok = fast.Cut(at)
		s, want = s.cut(at)
	case 4, 5:
		ok = fast.Lay(at, e)
		s, want = s.lay(at, e)
	case 6, 7:
		ok = fast.Swap(at, e)
		s, want = s.swap(at, e)
	default:
		fast.Add(e)
		s = s.add(e)
	}
	if ok != want {
		t.Fatalf("%v, want %v, at %d of %d", ok, want, at, len(s))
	}
	return s
}

// P10.1 to P10.3, beside the slow list.
func TestBesideSlowList(t *testing.T) {
	for seed := range int64(400) {
		r := rand.New(rand.NewSource(seed))
		var fast marks.List
		var s slow
		for range 80 {
			s = step(t, &fast, s, r)
			wantList(t, "Entries", &fast, shown(s))
			node := r.Intn(14) - 2
			if fast.Find(node) != s.find(node) {
				t.Fatalf("%s: Find(%d): %d", shown(s), node, fast.Find(node))
			}
			if fast.Last("b") != s.lastOf("b") || fast.Last("u") != -1 {
				t.Fatalf("%s: Last: %d, %d", shown(s), fast.Last("b"), fast.Last("u"))
			}
			var open []int
			for range r.Intn(20) {
				open = append(open, r.Intn(40)-2)
			}
			if fast.Rest(open) != s.rest(open) {
				t.Fatalf("%s: Rest(%v): %d", shown(s), open, fast.Rest(open))
			}
		}
	}
}

package expr_test

import (
	"math/rand"
	"slices"
	"strings"
	"testing"

	"beadle/api"
	"beadle/expr"
)

// slowCheck goes through a text sign by sign: the first place at which it can't go on, and what is wrong there.
func slowCheck(s string) (int, api.Errno) {
	word := func(b byte) bool { return strings.IndexByte("abcdefghijklmnopqrstuvwxyz0123456789-", b) >= 0 }
	deep, full := 0, false // full: an item stands just ahead
	for i := 0; i < len(s); i++ {
		switch b := s[i]; {
		case b == ' ':
		case word(b):
			full = true
		case b == '@':
			if i+1 == len(s) || !word(s[i+1]) {
				return i + 1, api.ErrForm
			}
			full = true
		case b == '#':
			for _, want := range []byte("text") {
				if i++; i == len(s) || s[i] != want {
					return i, api.ErrForm
				}
			}
			full = true
		case b == '(':
			if deep++; deep > 16 {
				return i, api.ErrNest
			}
			rest := strings.TrimLeft(s[i+1:], " ")
			if full = strings.HasPrefix(rest, ")"); full {
				i = len(s) - len(rest)
				deep--
			}
		case b == ')' && full && deep > 0:
			deep--
		case (b == '*' || b == '+' || b == '?') && full:
		case (b == '|' || b == '&') && full:
			full = false
		default:
			return i, api.ErrForm
		}
	}
	if !full || deep > 0 {
		return len(s), api.ErrForm
	}
	return 0, api.OK
}

// slowCut: the pieces of a text between signs that stand in no brackets.
func slowCut(s string, sign byte) []string {
	deep, from := 0, 0
	var out []string
	for i := range len(s) {
		switch {
		case s[i] == '(':
			deep++
		case s[i] == ')':
			deep--
		case s[i] == sign && deep == 0:
			out = append(out, s[from:i])
			from = i + 1
		}
	}
	return append(out, s[from:])
}

// slowItems: the items of a row, one behind the other.
func slowItems(s string) []string {
	var out []string
	for s = strings.Trim(s, " "); s != ""; s = strings.Trim(s, " ") {
		n := 1
		switch s[0] {
		case '#':
			n = len("#text")
		case '(':
			for strings.Count(s[:n], "(") != strings.Count(s[:n], ")") {
				n++
			}
		default:
			for n < len(s) && strings.IndexByte(" *+?()@#", s[n]) < 0 {
				n++
			}
		}
		behind := s[n:]
		last := strings.TrimLeft(behind, " *+?")
		out = append(out, s[:len(s)-len(last)])
		s = last
	}
	return out
}

// slowParse of a text that slowCheck takes: by cutting it at the signs that bind least.
func slowParse(s string) expr.Expr {
	s = strings.Trim(s, " ")
	for _, level := range []struct {
		kind   int
		pieces []string
	}{{expr.Alt, slowCut(s, '|')}, {expr.All, slowCut(s, '&')}, {expr.Seq, slowItems(s)}} {
		if len(level.pieces) > 1 {
			e := expr.Expr{Kind: level.kind}
			for _, p := range level.pieces {
				e.Kids = append(e.Kids, slowParse(p))
			}
			return e
		}
	}
	last := len(s) - 1
	if i := strings.IndexByte("*+?", s[last]); i >= 0 {
		return expr.Expr{Kind: []int{expr.Star, expr.Plus, expr.Maybe}[i], Kids: []expr.Expr{slowParse(s[:last])}}
	}
	switch {
	case s == "#text":
		return expr.Expr{Kind: expr.Text}
	case s[0] == '@':
		return expr.Expr{Kind: expr.Category, Word: s[1:]}
	case s[0] != '(':
		return expr.Expr{Kind: expr.Name, Word: s}
	case strings.Trim(s[1:last], " ") == "":
		return expr.Expr{}
	}
	return slowParse(s[1:last])
}

// randomText: of whole pieces, so that many are expressions.
func randomText(r *rand.Rand) string {
	pieces := []string{"a", "b", "-", "c9", "@a", "@b", "#text", "()", "( )", "(", ")", "(", ")", "|", "&", "*", "+", "?", " ", " ", "a|b", "(a&b)", "@", "#", "#te", "A", "\x00", "a b"}
	var s strings.Builder
	for range r.Intn(10) + r.Intn(2)*r.Intn(40) {
		s.WriteString(pieces[r.Intn(len(pieces))])
	}
	return s.String()
}

// randomSound: an expression's text, with blanks and brackets that needn't be there.
func randomSound(r *rand.Rand, deep int) string {
	pad := strings.Repeat(" ", r.Intn(8)/6)
	part := func() string { return randomSound(r, deep-1) }
	n := r.Intn(9)
	if deep <= 0 {
		n = r.Intn(4)
	}
	switch n {
	case 0, 1:
		return pad + []string{"a", "b", "c", "-", "d0"}[r.Intn(5)] + pad
	case 2:
		return pad + []string{"@a", "@b", "#text", "()", "( )"}[r.Intn(5)] + pad
	case 3:
		return pad + "(" + part() + ")" + pad
	case 4:
		return part() + " " + part()
	case 5:
		return part() + "|" + part()
	case 6:
		return part() + "&" + part()
	case 7:
		return "(" + part() + ")" + pad + []string{"*", "+", "?"}[r.Intn(3)] + pad
	}
	return part() + pad + []string{"*", "+", "?"}[r.Intn(3)] + pad
}

// P14.1, P14.2: beside the slow reading.
func TestParseSlow(t *testing.T) {
	r := rand.New(rand.NewSource(14))
	sound := 0
	for i := range 200000 {
		s := randomText(r)
		if i%2 == 0 {
			s = randomSound(r, r.Intn(6))
		}
		if i%4 == 0 {
			k := r.Intn(len(s) + 1)
			s = s[:k] + string("()|&*+?@# a\x00"[r.Intn(12)]) + s[k:]
		}
		if len(s) > api.MaxExpr {
			continue
		}
		wantAt, wantCode := slowCheck(s)
		e, at, code := expr.Parse(s)
		if at != wantAt || code != wantCode {
			t.Fatalf("%q: place %d, error %d, want %d, %d", s, at, code, wantAt, wantCode)
		}
		if code != api.OK {
			continue
		}
		sound++
		if want := slowParse(s); tell(e) != tell(want) {
			t.Fatalf("%q: %s, want %s", s, tell(e), tell(want))
		}
		checkShow(t, e)
	}
	if sound < 50000 {
		t.Errorf("%d sound ones", sound)
	}
}

func checkShow(t *testing.T, e expr.Expr) {
	t.Helper()
	s := expr.Show(e)
	if len(s) > api.MaxExpr {
		return
	}
	again, at, code := expr.Parse(s)
	if code != api.OK || tell(again) != tell(e) {
		t.Fatalf("%s: %q, read again %s, place %d, error %d", tell(e), s, tell(again), at, code)
	}
	if blanks := strings.Count(s, " "); blanks != seqBlanks(e) {
		t.Fatalf("%q: %d blanks", s, blanks)
	}
	for i := range len(s) { // no pair of brackets can go
		if s[i] != '(' || i+1 < len(s) && s[i+1] == ')' {
			continue
		}
		j := i + 1
		for strings.Count(s[i:j], "(") != strings.Count(s[i:j], ")") {
			j++
		}
		less, _, code := expr.Parse(s[:i] + " " + s[i+1:j-1] + " " + s[j:])
		if code == api.OK && tell(less) == tell(e) {
			t.Fatalf("%q: brackets at %d and %d", s, i, j-1)
		}
	}
}

// seqBlanks: how many blanks the Seqs need.
func seqBlanks(e expr.Expr) int {
	n := 0
	if e.Kind == expr.Seq {
		n = len(e.Kids) - 1
	}
	for _, k := range e.Kids {
		n += seqBlanks(k)
	}
	return n
}

// slowOrders: of all rows of numbers below n, rising, those that have each number once.
func slowOrders(n int) [][]int {
	out := [][]int{{}}
	for range n {
		var longer [][]int
		for _, row := range out {
			for k := range n {
				longer = append(longer, append(slices.Clone(row), k))
			}
		}
		out = longer
	}
	return slices.DeleteFunc(out, func(row []int) bool {
		row = slices.Clone(row)
		slices.Sort(row)
		return len(slices.Compact(row)) < n
	})
}

// slowStep: with its first innermost All spread; false where there is none, nil where it is too big.
func slowStep(e expr.Expr) (*expr.Expr, bool) {
	for i, k := range e.Kids {
		if next, ok := slowStep(k); ok {
			if next == nil {
				return nil, true
			}
			e.Kids = slices.Clone(e.Kids)
			e.Kids[i] = *next
			return &e, true
		}
	}
	if e.Kind != expr.All {
		return nil, false
	}
	if len(e.Kids) > 4 {
		return nil, true
	}
	out := &expr.Expr{Kind: expr.Alt}
	for _, row := range slowOrders(len(e.Kids)) {
		seq := expr.Expr{Kind: expr.Seq}
		for _, k := range row {
			seq.Kids = append(seq.Kids, e.Kids[k])
		}
		out.Kids = append(out.Kids, seq)
	}
	return out, true
}

func slowSpread(e expr.Expr) (expr.Expr, api.Errno) {
	for {
		next, ok := slowStep(e)
		if !ok {
			return e, api.OK
		}
		if next == nil || expr.Size(*next) > 4096 {
			return expr.Expr{}, api.ErrBig
		}
		e = *next
	}
}

// P14.3: beside one All spread after the other.
func TestSpreadSlow(t *testing.T) {
	r := rand.New(rand.NewSource(143))
	counts := map[api.Errno]int{}
	for range 20000 {
		s := randomSound(r, 3+r.Intn(4))
		if len(s) > api.MaxExpr {
			continue
		}
		e, _, code := expr.Parse(s)
		if code != api.OK {
			continue
		}
		if r.Intn(4) == 0 {
			e = expr.Expr{Kind: expr.All, Kids: []expr.Expr{e, e, {Kind: expr.Text}}}
		}
		want, wantCode := slowSpread(e)
		got, code := expr.Spread(e)
		if code != wantCode || tell(got) != tell(want) {
			t.Fatalf("%q: error %d, want %d\n%s\n%s", s, code, wantCode, tell(got), tell(want))
		}
		counts[code]++
		if code == api.OK {
			checkShow(t, got)
		}
	}
	if counts[api.OK] < 1000 || counts[api.ErrBig] < 100 {
		t.Error(counts)
	}
}

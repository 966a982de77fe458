package expr

import (
	"slices"

	"beadle/api"
)

const (
	maxParts = 4    // of an All
	maxSize  = 4096 // of what is spread
)

// Spread: without Alls: each row of their parts.
func Spread(e Expr) (out Expr, code api.Errno) {
	defer func() {
		if w, ok := told(recover()); ok {
			out, code = Expr{}, w.code
		}
	}()
	out, _ = spread(e)
	return out, api.OK
}

// spread: an expression without Alls, and its Size.
func spread(e Expr) (Expr, int) {
	var kids []Expr
	size := 1
	for _, kid := range e.Kids {
		part, more := spread(kid)
		kids = append(kids, part)
		size += more
		limit(size, maxSize)
	}
	if e.Kind != All {
		return Expr{Kind: e.Kind, Word: e.Word, Kids: kids}, size
	}
	limit(len(kids), maxParts)
	rows := orders(len(kids))
	size = 1 + len(rows)*size
	limit(size, maxSize)
	return inRows(kids, rows), size
}

func limit(n, most int) {
	if n > most {
		panic(wrong{code: api.ErrBig})
	}
}

// orders of the numbers below n, the orders rising.
func orders(n int) [][]int {
	rows := [][]int{{}}
	for range n {
		rows = longer(rows, n)
	}
	return rows
}

// longer: each row with each number behind it that it hasn't.
func longer(rows [][]int, n int) [][]int {
	var out [][]int
	for _, row := range rows {
		for k := range n {
			if !slices.Contains(row, k) {
				out = append(out, append(slices.Clone(row), k))
			}
		}
	}
	return out
}

// inRows: an Alt of Seqs, each with parts of its own, as no two lists of an answer are one.
func inRows(kids []Expr, rows [][]int) Expr {
	alt := Expr{Kind: Alt}
	for _, row := range rows {
		seq := Expr{Kind: Seq}
		for _, k := range row {
			seq.Kids = append(seq.Kids, clone(kids[k]))
		}
		alt.Kids = append(alt.Kids, seq)
	}
	return alt
}

func clone(e Expr) Expr {
	var kids []Expr
	for _, kid := range e.Kids {
		kids = append(kids, clone(kid))
	}
	e.Kids = kids
	return e
}

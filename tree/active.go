package tree

import (
	"slices"

	"beadle/marks"
)

// active are the marks. Where markers are left behind there may be very many of them, and
// layer 10's list tells its entries all at once only: so each marker begins a list of its own.
type active struct {
	marks.List               // what is behind the last marker
	ahead      []*marks.List // one for each marker, the innermost last
}

// Mark: a marker.
func (a *active) Mark() {
	behind := a.List
	a.ahead = append(a.ahead, &behind)
	a.List = marks.List{}
}

// Clear: all up to the last marker, and that, away.
func (a *active) Clear() {
	a.List = marks.List{}
	if last := len(a.ahead) - 1; last >= 0 {
		a.List = *a.ahead[last]
		a.ahead = a.ahead[:last]
	}
}

// has: is a node among them, whatever markers stand behind it?
func (a *active) has(node int) bool {
	return a.Find(node) >= 0 || slices.ContainsFunc(a.ahead, func(l *marks.List) bool { return l.Find(node) >= 0 })
}

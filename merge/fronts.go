package merge

import (
	"container/heap"

	"beadle/api"
)

// fronts are lists of which something is still to be told: a heap, by the first of each.
type fronts [][]api.Diag

func (f fronts) Len() int           { return len(f) }
func (f fronts) Less(i, j int) bool { return Less(f[i][0], f[j][0]) }
func (f fronts) Swap(i, j int)      { f[i], f[j] = f[j], f[i] }

// Push is asked by the heap alone.
func (f *fronts) Push(x any) {
	if list, ok := x.([]api.Diag); ok {
		*f = append(*f, list)
	}
}

// Pop is asked by the heap alone.
func (f *fronts) Pop() any {
	last := len(*f) - 1
	list := (*f)[last]
	*f = (*f)[:last]
	return list
}

// next takes the least one of all; there must be a list.
func (f *fronts) next() api.Diag {
	list := heap.Pop(f).([]api.Diag)
	if len(list) > 1 {
		heap.Push(f, list[1:])
	}
	return list[0]
}

package exec

import (
	"cmp"
	"container/heap"

	"parchment/api"
	"parchment/eval"
	"parchment/value"
)

// found is a row with what it is ordered by: a value, and its place among those that were found.
type found struct {
	row api.Row
	by  api.Value
	at  int
}

// firsts is the first rows of an order, in a heap: on top stands the last one of them, which goes when there is one too many.
type firsts struct {
	rows  []found
	order func(a, b found) int
}

func (f *firsts) Len() int           { return len(f.rows) }
func (f *firsts) Less(i, k int) bool { return f.order(f.rows[i], f.rows[k]) > 0 }
func (f *firsts) Swap(i, k int)      { f.rows[i], f.rows[k] = f.rows[k], f.rows[i] }
func (f *firsts) Push(x any)         { f.rows = append(f.rows, x.(found)) }

// Pop takes the row at the end: package heap puts the top one there.
func (f *firsts) Pop() any {
	last := len(f.rows) - 1
	x := f.rows[last]
	f.rows = f.rows[:last]
	return x
}

// first is the rows in the order that a statement asks for, and of these as many as it asks for.
func first(s api.Stmt, l []api.Row) []api.Row {
	f := &firsts{order: orderOf(s)}
	for i, x := range l {
		heap.Push(f, found{row: x, by: eval.Path(x.V, s.Order), at: i})
		// Below 0 there is no limit.
		if s.Limit >= 0 && f.Len() > s.Limit {
			heap.Pop(f)
		}
	}
	out := make([]api.Row, f.Len())
	for i := len(out) - 1; i >= 0; i-- {
		out[i] = heap.Pop(f).(found).row
	}
	return out
}

// orderOf is the order that a statement asks for; rows that are the same there, as all are without one, stand as they were found.
func orderOf(s api.Stmt) func(a, b found) int {
	byPlace := func(a, b found) int { return cmp.Compare(a.at, b.at) }
	switch {
	case s.Order == "":
		return byPlace
	case s.Desc:
		return func(a, b found) int { return cmp.Or(value.Compare(b.by, a.by), byPlace(a, b)) }
	}
	return func(a, b found) int { return cmp.Or(value.Compare(a.by, b.by), byPlace(a, b)) }
}

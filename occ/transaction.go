package occ

import (
	"parchment/buffer"
	"parchment/ranges"
)

// transaction is one that is open: a buffer of what it did, and what else is to be known of it.
type transaction struct {
	*buffer.Buffer
	number uint64
	began  uint64     // how many blocks there were then
	looks  ranges.Set // what it looked at
	lost   bool       // what it looked at whole was taken out
	place  int        // in the heap
}

// byBeginning is transactions in a heap: on top stands one that began first.
type byBeginning []*transaction

func (h byBeginning) Len() int           { return len(h) }
func (h byBeginning) Less(i, k int) bool { return h[i].began < h[k].began }

func (h byBeginning) Swap(i, k int) {
	h[i], h[k] = h[k], h[i]
	h[i].place, h[k].place = i, k
}

func (h *byBeginning) Push(x any) {
	t := x.(*transaction)
	t.place = len(*h)
	*h = append(*h, t)
}

// Pop takes the transaction at the end: package heap puts there the one that goes.
func (h *byBeginning) Pop() any {
	last := len(*h) - 1
	t := (*h)[last]
	(*h)[last] = nil // what it did and looked at is not kept
	*h = (*h)[:last]
	return t
}

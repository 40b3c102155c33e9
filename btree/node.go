package btree

import (
	"cmp"
	"iter"
	"slices"

	"parchment/api"
	"parchment/keys"
)

// item is a key with its value.
type item struct{ key, val string }

// node is a node with all below it. Its lists are never changed: a change makes those nodes anew that lead to it, so that keys which somebody goes over stay as they were.
type node struct {
	items []item
	kids  []node // none, in a leaf
}

func (n node) leaf() bool { return len(n.kids) == 0 }

// find is where a key stands among the node's own, or which kid it would be below, and whether it is among them.
func (n node) find(key string) (int, bool) {
	return slices.BinarySearchFunc(n.items, key, func(x item, key string) int {
		return cmp.Compare(x.key, key)
	})
}

// get is a key's value.
func (n node) get(key string) (string, bool) {
	for {
		i, here := n.find(key)
		if here {
			return n.items[i].val, true
		}
		if n.leaf() {
			return "", false
		}
		n = n.kids[i]
	}
}

// last is the highest key.
func (n node) last() item {
	for !n.leaf() {
		n = n.kids[len(n.kids)-1]
	}
	return n.items[len(n.items)-1]
}

// with is the node with a key in it, or below it; it may have a key too many itself.
func (n node) with(x item) node {
	i, here := n.find(x.key)
	if here {
		return node{items: replaced(n.items, i, i+1, x), kids: n.kids}
	}
	if n.leaf() {
		return node{items: replaced(n.items, i, i, x)}
	}
	return n.withKid(i, n.kids[i].with(x))
}

// without is the node without a key that is in it, or below it; it may have a key too few itself.
func (n node) without(key string) node {
	i, here := n.find(key)
	if n.leaf() {
		return node{items: replaced(n.items, i, i+1)}
	}
	if here {
		// Only leaves can lose a key: that next below takes the place of this one.
		low := n.kids[i].last()
		n.items = replaced(n.items, i, i+1, low)
		key = low.key
	}
	return n.withKid(i, n.kids[i].without(key))
}

// withKid is the node with another kid in a place, whose keys may be too many or too few.
func (n node) withKid(i int, kid node) node {
	if len(kid.items) > api.MostKeys {
		return n.parted(i, kid)
	}
	if len(kid.items) < api.LeastKeys {
		return n.joined(i, kid)
	}
	return node{items: n.items, kids: replaced(n.kids, i, i+1, kid)}
}

// parted is the node with the halves of a kid in its place, and the key from its midst between them.
func (n node) parted(i int, kid node) node {
	mid := len(kid.items) / 2
	left, right := kid.piece(0, mid), kid.piece(mid+1, len(kid.items))
	return node{
		items: replaced(n.items, i, i, kid.items[mid]),
		kids:  replaced(n.kids, i, i+1, left, right),
	}
}

// joined is the node with a kid that has too few keys, and so is made one with a sister: the one to the left, if there is one.
func (n node) joined(i int, kid node) node {
	right := n.kids[1]
	if i > 0 {
		i--
		kid, right = n.kids[i], kid
	}
	both := node{
		items: slices.Concat(kid.items, n.items[i:i+1], right.items),
		kids:  slices.Concat(kid.kids, right.kids),
	}
	less := node{items: replaced(n.items, i, i+1), kids: replaced(n.kids, i+1, i+2)}
	// If both are too many for one node they are parted again: so the kid has got keys, and kids, of its sister.
	return less.withKid(i, both)
}

// piece is the keys from a place on up to another one, and the kids beside them.
func (n node) piece(from, to int) node {
	p := node{items: slices.Clone(n.items[from:to])}
	if !n.leaf() {
		p.kids = slices.Clone(n.kids[from : to+1])
	}
	return p
}

// span is the keys that are in a span, rising, and their values.
func (n node) span(s api.Span) iter.Seq2[string, string] {
	return func(yield func(string, string) bool) {
		for i, _ := n.find(s.Low); ; i++ {
			if !n.leaf() {
				for key, val := range n.kids[i].span(s) {
					if !yield(key, val) {
						return
					}
				}
			}
			if i == len(n.items) || !keys.Has(s, n.items[i].key) || !yield(n.items[i].key, n.items[i].val) {
				return
			}
		}
	}
}

// deep is how many nodes stand one below the other, from this one on, which has at least so many keys; 0, if one of them has too many or too few keys or kids, or leaves do not stand as deep.
func (n node) deep(least int) int {
	if len(n.items) < least || len(n.items) > api.MostKeys {
		return 0
	}
	if n.leaf() {
		return 1
	}
	if len(n.kids) != len(n.items)+1 {
		return 0
	}
	below := n.kids[0].deep(api.LeastKeys)
	for _, kid := range n.kids[1:] {
		if kid.deep(api.LeastKeys) != below {
			return 0
		}
	}
	if below == 0 {
		return 0
	}
	return below + 1
}

// replaced is a list of its own with others in the place of the parts from one place on up to another one.
func replaced[T any](l []T, from, to int, others ...T) []T {
	return slices.Concat(l[:from], others, l[to:])
}

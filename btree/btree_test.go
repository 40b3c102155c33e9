package btree

import (
	"fmt"
	"iter"
	"maps"
	"math/rand"
	"slices"
	"strings"
	"testing"

	"parchment/api"
	"parchment/keys"
)

// two is a key of two bytes: they are ordered as the numbers are.
func two(i int) string { return string([]byte{byte(i >> 8), byte(i)}) }

// numbered is n keys, rising.
func numbered(n int) []string {
	l := make([]string, n)
	for i := range l {
		l[i] = two(i)
	}
	return l
}

// orders is a list's parts in some orders: rising, falling, from the midst out, from both ends in, in strides, and mixed.
func orders(l []string) map[string][]string {
	n := len(l)
	falling := slices.Clone(l)
	slices.Reverse(falling)
	ends := make([]string, 0, n)
	for i := range n {
		if i%2 == 0 {
			ends = append(ends, l[i/2])
		} else {
			ends = append(ends, l[n-1-i/2])
		}
	}
	midst := slices.Clone(ends)
	slices.Reverse(midst)
	var strides []string
	for first := range 7 {
		for i := first; i < n; i += 7 {
			strides = append(strides, l[i])
		}
	}
	out := map[string][]string{"rising": l, "falling": falling, "from both ends": ends, "from the midst": midst, "in strides": strides}
	for seed := range 3 {
		mixed := slices.Clone(l)
		rand.New(rand.NewSource(int64(seed))).Shuffle(n, func(i, k int) { mixed[i], mixed[k] = mixed[k], mixed[i] })
		out[fmt.Sprint("mixed ", seed)] = mixed
	}
	return out
}

// treeOf is a tree of keys, each with itself and a sign as its value.
func treeOf(l []string) *Tree {
	x := New()
	for _, k := range l {
		x.Put(k, "v"+k)
	}
	return x
}

func modelOf(l []string) map[string]string {
	m := map[string]string{}
	for _, k := range l {
		m[k] = "v" + k
	}
	return m
}

// collect is the keys with their values that are gone over.
func collect(seq iter.Seq2[string, string]) []item {
	var l []item
	for k, v := range seq {
		l = append(l, item{k, v})
	}
	return l
}

// within is what of a model is in a span, rising: by the words of chapter 4.
func within(m map[string]string, s api.Span) []item {
	var l []item
	for _, k := range slices.Sorted(maps.Keys(m)) {
		if k >= s.Low && (len(s.High) == 0 || k < s.High) {
			l = append(l, item{k, m[k]})
		}
	}
	return l
}

// fault is what is wrong with a node that must have its keys between two others (nil: none), and how deep it is; this looks at each node by itself, where Deep goes over all keys.
func fault(n node, root bool, low, high *string) (string, int) {
	if len(n.items) > 7 || !root && len(n.items) < 3 {
		return fmt.Sprintf("%d keys", len(n.items)), 0
	}
	if len(n.kids) > 0 && len(n.kids) != len(n.items)+1 {
		return fmt.Sprintf("%d keys, %d kids", len(n.items), len(n.kids)), 0
	}
	ends := []*string{low}
	for i := range n.items {
		ends = append(ends, &n.items[i].key)
	}
	ends = append(ends, high)
	for i := range len(ends) - 1 {
		if ends[i] != nil && ends[i+1] != nil && *ends[i] >= *ends[i+1] {
			return fmt.Sprintf("%q ahead of %q", *ends[i], *ends[i+1]), 0
		}
	}
	deep := 0
	for i, kid := range n.kids {
		f, d := fault(kid, false, ends[i], ends[i+1])
		if f != "" {
			return f, 0
		}
		if i > 0 && d != deep {
			return fmt.Sprintf("a kid %d deep, one %d", deep, d), 0
		}
		deep = d
	}
	return "", deep + 1
}

// leastDeep and mostDeep are how many nodes n keys can stand below one another, by how many keys a node has at most and at least.
func leastDeep(n int) int {
	deep, nodes, room := 1, 1, 7
	for room < n {
		nodes *= 8
		room += nodes * 7
		deep++
	}
	return deep
}

func mostDeep(n int) int {
	deep, nodes, need := 1, 2, 1+2*3
	for need <= n {
		nodes *= 4
		need += nodes * 3
		deep++
	}
	return deep
}

// sound holds the nodes of a tree, its depth and its number of keys against what they must be.
func sound(t *testing.T, what string, x *Tree, n int) {
	t.Helper()
	f, deep := fault(x.root, true, nil, nil)
	if f != "" {
		t.Fatalf("%s: %s", what, f)
	}
	if x.Len() != n {
		t.Fatalf("%s: Len %d, want %d", what, x.Len(), n)
	}
	if x.Deep() != deep || deep < leastDeep(n) || deep > mostDeep(n) {
		t.Fatalf("%s: Deep %d, of nodes %d deep, with %d keys", what, x.Deep(), deep, n)
	}
}

// same holds all of a tree against a model.
func same(t *testing.T, what string, x *Tree, m map[string]string) {
	t.Helper()
	sound(t, what, x, len(m))
	if got, want := collect(x.Range(keys.All())), within(m, api.Span{}); !slices.Equal(got, want) {
		t.Fatalf("%s: has %q, want %q", what, got, want)
	}
	for k, v := range m {
		if got, ok := x.Get(k); got != v || !ok {
			t.Fatalf("%s: Get(%q): %q, %v, want %q", what, k, got, ok, v)
		}
	}
}

func TestHundredRising(t *testing.T) {
	x := treeOf(numbered(100))
	if d := x.Deep(); d < 2 || d > 3 {
		t.Errorf("Deep %d", d)
	}
	same(t, "a hundred", x, modelOf(numbered(100)))
}

func TestEmptyTree(t *testing.T) {
	x := New()
	if x == nil {
		t.Fatal("New is nil")
	}
	same(t, "new", x, nil)
	// One node, without keys, which the root may be: nothing is wrong, and that alone is told by 0.
	if x.Deep() != 1 {
		t.Errorf("Deep %d", x.Deep())
	}
	for _, k := range []string{"", "a", "\x00", "\xff"} {
		if v, ok := x.Get(k); v != "" || ok {
			t.Errorf("Get(%q): %q, %v", k, v, ok)
		}
		if x.Drop(k) {
			t.Errorf("Drop(%q) of nothing", k)
		}
		for _, s := range []api.Span{{}, {Low: k}, {High: k}, {Low: k, High: k}, {Low: "", High: "z"}} {
			if l := collect(x.Range(s)); len(l) != 0 {
				t.Errorf("Range(%q): %q", s, l)
			}
		}
	}
	same(t, "still empty", x, nil)
}

func TestOneKey(t *testing.T) {
	x := New()
	if !x.Put("k", "v") {
		t.Error("Put of a key that was not there")
	}
	if x.Len() != 1 || x.Deep() != 1 {
		t.Errorf("Len %d, Deep %d", x.Len(), x.Deep())
	}
	same(t, "one key", x, map[string]string{"k": "v"})
	for _, k := range []string{"", "K", "j", "k\x00", "kk", "l"} {
		if v, ok := x.Get(k); v != "" || ok || x.Drop(k) {
			t.Errorf("%q is there: %q, %v", k, v, ok)
		}
	}
	same(t, "one key, still", x, map[string]string{"k": "v"})
	if !x.Drop("k") || x.Drop("k") {
		t.Error("Drop of a key that was there, and again")
	}
	if v, ok := x.Get("k"); v != "" || ok {
		t.Errorf("Get of a key that went: %q, %v", v, ok)
	}
	same(t, "no key", x, nil)
}

func TestDeepOfTheFirstKeys(t *testing.T) {
	for order, l := range orders(numbered(8)) {
		x := New()
		for i, k := range l {
			x.Put(k, "")
			want := 1
			if i+1 > 7 {
				want = 2
			}
			if x.Deep() != want {
				t.Errorf("%s: Deep %d of %d keys", order, x.Deep(), i+1)
			}
		}
	}
}

func TestKeysComeInAnyOrder(t *testing.T) {
	for order, l := range orders(numbered(700)) {
		x, m := New(), map[string]string{}
		for i, k := range l {
			if v, ok := x.Get(k); v != "" || ok {
				t.Fatalf("%s: Get(%q) ahead of Put: %q, %v", order, k, v, ok)
			}
			if !x.Put(k, "v"+k) {
				t.Fatalf("%s: Put(%q) says that it was there", order, k)
			}
			m[k] = "v" + k
			sound(t, order, x, i+1)
			if v, ok := x.Get(k); v != "v"+k || !ok {
				t.Fatalf("%s: Get(%q) behind Put: %q, %v", order, k, v, ok)
			}
			if i%50 == 0 || i < 70 {
				same(t, order, x, m)
			}
		}
		same(t, order, x, m)
	}
}

func TestKeysGoInAnyOrder(t *testing.T) {
	const n = 400
	for came, first := range orders(numbered(n)) {
		for goes, l := range orders(numbered(n)) {
			what := came + ", going " + goes
			x, m := treeOf(first), modelOf(first)
			for i, k := range l {
				if !x.Drop(k) {
					t.Fatalf("%s: Drop(%q) says that it was not there", what, k)
				}
				delete(m, k)
				sound(t, what, x, n-1-i)
				if v, ok := x.Get(k); v != "" || ok || x.Drop(k) {
					t.Fatalf("%s: %q is still there: %q, %v", what, k, v, ok)
				}
				if i%50 == 0 || i > n-70 {
					same(t, what, x, m)
				}
			}
			if x.Len() != 0 || x.Deep() != 1 {
				t.Errorf("%s: Len %d, Deep %d", what, x.Len(), x.Deep())
			}
			if !x.Put("again", "x") || x.Len() != 1 {
				t.Errorf("%s: no key comes any more", what)
			}
		}
	}
}

func TestPutAgain(t *testing.T) {
	for _, n := range []int{1, 7, 8, 64, 300} {
		for order, l := range orders(numbered(n)) {
			x, m := treeOf(l), modelOf(l)
			deep := x.Deep()
			for i, k := range l {
				if x.Put(k, "another"+k) {
					t.Fatalf("%d %s: Put(%q) says that it was not there", n, order, k)
				}
				m[k] = "another" + k
				if v, ok := x.Get(k); v != "another"+k || !ok {
					t.Fatalf("%d %s: Get(%q): %q, %v", n, order, k, v, ok)
				}
				if i%40 == 0 {
					same(t, order, x, m)
				}
			}
			same(t, order, x, m)
			if x.Deep() != deep {
				t.Errorf("%d %s: Deep %d, was %d", n, order, x.Deep(), deep)
			}
			for _, k := range l {
				if x.Put(k, "another"+k) || x.Put(k, "") {
					t.Fatalf("%d %s: Put(%q) says that it was not there", n, order, k)
				}
				m[k] = ""
			}
			same(t, order+", empty values", x, m)
			if k := l[0]; !x.Drop(k) || !x.Put(k, "new") {
				t.Errorf("%d %s: %q went, and comes again", n, order, k)
			}
			m[l[0]] = "new"
			same(t, order+", one anew", x, m)
		}
	}
}

func TestEmptyKeyAndEmptyValue(t *testing.T) {
	for _, n := range []int{0, 3, 7, 8, 100} {
		x, m := treeOf(numbered(n)), modelOf(numbered(n))
		if v, ok := x.Get(""); v != "" || ok || x.Drop("") {
			t.Errorf("of %d: the empty key is there: %q, %v", n, v, ok)
		}
		if !x.Put("", "") || x.Put("", "") {
			t.Errorf("of %d: Put of the empty key, and again", n)
		}
		m[""] = ""
		same(t, "empty key, empty value", x, m)
		if x.Put("", "v") {
			t.Errorf("of %d: Put of the empty key a third time", n)
		}
		m[""] = "v"
		same(t, "empty key", x, m)
		for _, s := range []api.Span{{}, {High: "\x00"}, {High: "\xff"}} {
			if l := collect(x.Range(s)); len(l) == 0 || l[0] != (item{"", "v"}) {
				t.Errorf("of %d: Range(%q): %q", n, s, l)
			}
		}
		if l := collect(x.Range(api.Span{Low: "\x00"})); len(l) != n {
			t.Errorf("of %d: behind the empty key: %q", n, l)
		}
		if !x.Drop("") || x.Drop("") {
			t.Errorf("of %d: Drop of the empty key, and again", n)
		}
		delete(m, "")
		same(t, "without the empty key", x, m)
	}
}

// odd is keys that begin with each other, have noughts and great bytes in them, are no UTF-8, or long.
func odd() []string {
	l := []string{"", "\x00", "\x00\x00", "\x00\x01", "\x01", "A", "a", "a\x00", "a\x00b", "a\x01", "aa", "aaa", "ab", "b", "\x7f", "\x80", "é", "\xfe\xff", "\xff", "\xff\x00", "\xff\xff", "\xff\xff\xff"}
	long := strings.Repeat("long", 5000)
	return append(l, long, long+"\x00", long[1:], long+"a")
}

func TestOddKeys(t *testing.T) {
	for order, l := range orders(odd()) {
		x, m := New(), map[string]string{}
		for _, k := range l {
			x.Put(k, k+"\x00")
			m[k] = k + "\x00"
			same(t, order, x, m)
		}
		for _, k := range l {
			if !x.Drop(k) {
				t.Errorf("%s: %q was not there", order, k)
			}
			delete(m, k)
			same(t, order, x, m)
		}
	}
}

func TestKeysThatAreNotThere(t *testing.T) {
	for _, n := range []int{0, 1, 7, 8, 63, 64, 500} {
		l := numbered(n)
		x, m := treeOf(l), modelOf(l)
		others := []string{"", "\x00", "\xff", "\xff\xff"}
		for _, k := range l {
			others = append(others, k+"\x00", k+"\xff", k[:1], k+k)
		}
		for _, k := range others {
			if v, ok := x.Get(k); v != "" || ok {
				t.Errorf("of %d: Get(%q): %q, %v", n, k, v, ok)
			}
			if x.Drop(k) {
				t.Errorf("of %d: Drop(%q) says that it was there", n, k)
			}
		}
		same(t, "nothing went", x, m)
	}
}

// permutations calls with each order of a list's parts.
func permutations(l []string, at int, each func([]string)) {
	if at == len(l) {
		each(l)
		return
	}
	for i := at; i < len(l); i++ {
		l[at], l[i] = l[i], l[at]
		permutations(l, at+1, each)
		l[at], l[i] = l[i], l[at]
	}
}

func TestEachOrderOfEightKeys(t *testing.T) {
	whole := treeOf(numbered(8))
	permutations(numbered(8), 0, func(l []string) {
		x, y := New(), &Tree{root: whole.root, count: whole.count}
		for i, k := range l {
			if !x.Put(k, "") || !y.Drop(k) {
				t.Fatalf("%q: Put says that %q was there, or Drop that it was not", l, k)
			}
			sound(t, "keys come", x, i+1)
			sound(t, "keys go", y, 7-i)
		}
	})
}

// build is a node that is so deep, of so many keys in each node below it, with keys from a number on; and the next number.
func build(deep, from int, sizes ...int) (node, int) {
	var n node
	for i, size := range sizes {
		if i > 0 {
			n.items = append(n.items, item{two(from), "v" + two(from)})
			from++
		}
		var kid node
		if deep == 2 {
			for range size {
				kid.items = append(kid.items, item{two(from), "v" + two(from)})
				from++
			}
		} else {
			kid, from = build(deep-1, from, slices.Repeat([]int{3}, size+1)...)
		}
		n.kids = append(n.kids, kid)
	}
	return n, from
}

// drops takes each key out of a tree, by itself, and again with one more behind it.
func drops(t *testing.T, what string, root node, count int) {
	t.Helper()
	x := &Tree{root: root, count: count}
	sound(t, what, x, count)
	all := numbered(count)
	for i, k := range all {
		y, m := &Tree{root: root, count: count}, modelOf(all)
		if !y.Drop(k) {
			t.Fatalf("%s: %q was not there", what, k)
		}
		delete(m, k)
		same(t, fmt.Sprintf("%s, without %d", what, i), y, m)
		k = all[(i+1)%count]
		y.Drop(k)
		delete(m, k)
		same(t, fmt.Sprintf("%s, without %d and the next one", what, i), y, m)
	}
	same(t, what+", as it was", x, modelOf(all))
}

// A node loses a key that has no more than it must: beside sisters, to the left, to the right or on both sides, that have as few, or some to spare; leaves, and nodes with kids.
func TestSistersBesideOneThatLosesAKey(t *testing.T) {
	for deep := 2; deep <= 3; deep++ {
		for size := 3; size <= 7; size++ {
			for _, sizes := range [][]int{{3, size}, {size, 3}, {size, 3, 3}, {3, size, 3}, {3, 3, size}, {size, 3, size}, {3, 3, 3, size, 3, 3, 3, 3}} {
				root, count := build(deep, 0, sizes...)
				drops(t, fmt.Sprint(deep, " deep, sisters of ", sizes), root, count)
			}
		}
	}
}

func TestSisterKeepsWhatItNeeds(t *testing.T) {
	for deep := 2; deep <= 3; deep++ {
		for _, sizes := range [][]int{{3, 7}, {7, 3}} {
			root, count := build(deep, 0, sizes...)
			x := &Tree{root: root, count: count}
			small := x.root.kids[0]
			if sizes[0] == 7 {
				small = x.root.kids[1]
			}
			for !small.leaf() {
				small = small.kids[0]
			}
			if !x.Drop(small.items[0].key) || x.Deep() != deep || len(x.root.items) != 1 {
				t.Errorf("%d deep, %v: Deep %d, the root has %d keys, want 1", deep, sizes, x.Deep(), len(x.root.items))
			}
		}
		// With sisters that have none to spare it is one node, and so one less stands below another.
		root, count := build(deep, 0, 3, 3)
		x := &Tree{root: root, count: count}
		if !x.Drop(two(0)) || x.Deep() != deep-1 {
			t.Errorf("%d deep: Deep %d behind two that are one now", deep, x.Deep())
		}
	}
}

func TestFullNodesTakeAKey(t *testing.T) {
	for deep := 2; deep <= 3; deep++ {
		root, count := build(deep, 0, 7, 7, 7, 7, 7, 7, 7, 7)
		all := numbered(count)
		more := []string{""}
		for _, k := range all {
			more = append(more, k+"\x00")
		}
		for _, k := range more {
			y, m := &Tree{root: root, count: count}, modelOf(all)
			if !y.Put(k, "v") {
				t.Fatalf("%q was there", k)
			}
			m[k] = "v"
			same(t, "a full tree, and one more", y, m)
		}
	}
}

func TestDeepOfNodesThatMayNotBe(t *testing.T) {
	leaf := func(from, n int) node {
		var x node
		for i := range n {
			x.items = append(x.items, item{two(from + i), ""})
		}
		return x
	}
	over := func(kids ...node) node {
		var x node
		for i, kid := range kids {
			if i > 0 {
				x.items = append(x.items, item{kids[i-1].last().key + "+", ""})
			}
			x.kids = append(x.kids, kid)
		}
		return x
	}
	swapped := leaf(0, 5)
	swapped.items[2], swapped.items[3] = swapped.items[3], swapped.items[2]
	twice := leaf(0, 5)
	twice.items[4] = twice.items[3]
	twiceEmpty := node{items: []item{{"", ""}, {"", ""}}}
	fewKids, manyKids, noKeys := over(leaf(0, 3), leaf(10, 3)), over(leaf(0, 3), leaf(10, 3)), over(leaf(0, 3), leaf(10, 3))
	fewKids.kids = fewKids.kids[:1]
	manyKids.kids = append(manyKids.kids, leaf(20, 3))
	noKeys.items = nil
	atKid, aboveKid, belowKid := over(leaf(0, 3), leaf(10, 3)), over(leaf(0, 3), leaf(10, 3)), over(leaf(0, 3), leaf(10, 3))
	atKid.items[0].key = two(10)
	aboveKid.items[0].key = two(11)
	belowKid.items[0].key = two(1)
	for _, c := range []struct {
		what string
		root node
		want int
	}{
		{"no key", leaf(0, 0), 1},
		{"one key", leaf(0, 1), 1},
		{"a full root", leaf(0, 7), 1},
		{"a root with a key too many", leaf(0, 8), 0},
		{"two leaves", over(leaf(0, 3), leaf(10, 7)), 2},
		{"a leaf with a key too few", over(leaf(0, 2), leaf(10, 7)), 0},
		{"the last leaf with a key too few", over(leaf(0, 3), leaf(10, 3), leaf(20, 2)), 0},
		{"all leaves with a key too few", over(leaf(0, 2), leaf(10, 2)), 0},
		{"a leaf with a key too many", over(leaf(0, 8), leaf(10, 3)), 0},
		{"the last leaf with a key too many", over(leaf(0, 3), leaf(10, 8)), 0},
		{"a leaf without keys", over(leaf(0, 3), node{}), 0},
		{"a kid too few", fewKids, 0},
		{"a kid too many", manyKids, 0},
		{"two kids and no key", noKeys, 0},
		{"eight kids", over(leaf(0, 3), leaf(10, 3), leaf(20, 3), leaf(30, 3), leaf(40, 3), leaf(50, 3), leaf(60, 3), leaf(70, 3)), 2},
		{"nine kids", over(leaf(0, 3), leaf(10, 3), leaf(20, 3), leaf(30, 3), leaf(40, 3), leaf(50, 3), leaf(60, 3), leaf(70, 3), leaf(80, 3)), 0},
		{"a leaf that is less deep", over(over(leaf(0, 3), leaf(10, 3), leaf(20, 3), leaf(30, 3)), leaf(40, 3)), 0},
		{"a leaf that is deeper", over(leaf(0, 3), over(leaf(10, 3), leaf(20, 3), leaf(30, 3), leaf(40, 3))), 0},
		{"nodes with kids", over(over(leaf(0, 3), leaf(10, 3), leaf(20, 3), leaf(30, 3)), over(leaf(40, 3), leaf(50, 3), leaf(60, 3), leaf(70, 3))), 3},
		{"a node with kids and a key too few", over(over(leaf(0, 3), leaf(10, 3), leaf(20, 3), leaf(30, 3)), over(leaf(40, 3), leaf(50, 3), leaf(60, 3))), 0},
		{"a leaf below two with a key too few", over(over(leaf(0, 3), leaf(10, 3), leaf(20, 2), leaf(30, 3)), over(leaf(40, 3), leaf(50, 3), leaf(60, 3), leaf(70, 3))), 0},
		{"keys not in order", swapped, 0},
		{"a key twice", twice, 0},
		{"the empty key twice", twiceEmpty, 0},
		{"keys of a leaf not in order", over(leaf(10, 3), swapped), 0},
		{"leaves not in order", over(leaf(10, 3), leaf(0, 3)), 0},
		{"a key that is a kid's, too", atKid, 0},
		{"a key that is above one of the kid behind it", aboveKid, 0},
		{"a key that is below one of the kid ahead", belowKid, 0},
	} {
		if d := (&Tree{root: c.root}).Deep(); d != c.want {
			t.Errorf("%s: Deep %d, want %d", c.what, d, c.want)
		}
	}
}

func TestSpans(t *testing.T) {
	// Every second number is a key: ends of spans stand at keys, between them, ahead of the first and behind the last.
	for _, n := range []int{0, 1, 2, 7, 8, 20, 40} {
		var l, ends []string
		ends = append(ends, "")
		for i := range 2*n + 1 {
			ends = append(ends, two(i+1))
			if i%2 == 1 {
				l = append(l, two(i+1))
			}
		}
		ends = append(ends, "\x00", two(2)+"\x00", "\xff", "\xff\xff\xff")
		for order, came := range orders(l) {
			x, m := treeOf(came), modelOf(l)
			for _, low := range ends {
				for _, high := range ends {
					s := api.Span{Low: low, High: high}
					if got, want := collect(x.Range(s)), within(m, s); !slices.Equal(got, want) {
						t.Fatalf("%d keys, %s: Range(%q): %q, want %q", n, order, s, got, want)
					}
				}
			}
			same(t, order, x, m)
		}
	}
}

func TestKnownSpans(t *testing.T) {
	x := New()
	for _, k := range strings.Fields("b d f h j l n p r t v x") {
		x.Put(k, strings.ToUpper(k))
	}
	for _, c := range []struct{ low, high, want string }{
		{"", "", "b d f h j l n p r t v x"},
		{"b", "", "b d f h j l n p r t v x"},
		{"a", "z", "b d f h j l n p r t v x"},
		{"", "x", "b d f h j l n p r t v"},
		{"", "x\x00", "b d f h j l n p r t v x"},
		{"d", "h", "d f"},
		{"c", "i", "d f h"},
		{"d\x00", "h\x00", "f h"},
		{"j", "j\x00", "j"},
		{"j", "j", ""},
		{"k", "k", ""},
		{"k", "l", ""},
		{"", "b", ""},
		{"", "a", ""},
		{"x", "", "x"},
		{"x\x00", "", ""},
		{"y", "z", ""},
		{"t", "d", ""},
		{"z", "a", ""},
	} {
		var got, vals []string
		for k, v := range x.Range(api.Span{Low: c.low, High: c.high}) {
			got, vals = append(got, k), append(vals, v)
		}
		if s := strings.Join(got, " "); s != c.want || strings.Join(vals, " ") != strings.ToUpper(c.want) {
			t.Errorf("from %q to %q: %q with %q, want %q", c.low, c.high, s, vals, c.want)
		}
	}
}

func TestSpansOfLayer4(t *testing.T) {
	x := New()
	for i := range 50 {
		v := api.Value{Kind: api.Int, N: int64(i%5 - 2)}
		x.Put(keys.Pair(v, uint64(i)), fmt.Sprint(v.N))
	}
	for n := int64(-3); n <= 3; n++ {
		want := 10
		if n < -2 || n > 2 {
			want = 0
		}
		l := collect(x.Range(keys.Equal(api.Value{Kind: api.Int, N: n})))
		if len(l) != want {
			t.Errorf("%d keys begin with that of %d, want %d", len(l), n, want)
		}
		for _, it := range l {
			if it.val != fmt.Sprint(n) {
				t.Errorf("%q is among those of %d", it, n)
			}
		}
	}
}

func TestWhoeverStopsInTheMidst(t *testing.T) {
	const n = 90
	x, m := treeOf(numbered(n)), modelOf(numbered(n))
	for _, s := range []api.Span{{}, {Low: two(10)}, {High: two(70)}, {Low: two(10), High: two(70)}} {
		want := within(m, s)
		for most := 1; most <= len(want); most++ {
			var got []item
			for k, v := range x.Range(s) {
				got = append(got, item{k, v})
				if len(got) == most {
					break
				}
			}
			if !slices.Equal(got, want[:most]) {
				t.Fatalf("Range(%q), stopped behind %d: %q", s, most, got)
			}
			asked := 0
			x.Range(s)(func(string, string) bool {
				asked++
				return asked < most
			})
			if asked != most {
				t.Fatalf("Range(%q), told to stop behind %d, went on up to %d", s, most, asked)
			}
		}
	}
	same(t, "as it was", x, m)
}

func TestRangeGoesOverKeysAgain(t *testing.T) {
	const n = 80
	x, m := treeOf(numbered(n)), modelOf(numbered(n))
	s := api.Span{Low: two(5), High: two(75)}
	seq := x.Range(s)
	for range seq {
		break
	}
	for range 3 {
		if got := collect(seq); !slices.Equal(got, within(m, s)) {
			t.Errorf("again: %q", got)
		}
	}
	pairs := 0
	for range seq {
		for range seq {
			pairs++
		}
	}
	if pairs != 70*70 {
		t.Errorf("one within another: %d", pairs)
	}
}

// What Range answers is the caller's own: the keys that there are when it is called.
func TestChangesBehindRange(t *testing.T) {
	const n = 200
	x, m := treeOf(numbered(n)), modelOf(numbered(n))
	seq, want := x.Range(keys.All()), within(m, api.Span{})
	for i, k := range orders(numbered(n))["mixed 1"] {
		switch i % 3 {
		case 0:
			x.Drop(k)
			delete(m, k)
		case 1:
			x.Put(k, "another")
			m[k] = "another"
		case 2:
			x.Put(k+"more", "")
			m[k+"more"] = ""
		}
		if got := collect(seq); !slices.Equal(got, want) {
			t.Fatalf("behind %d changes: %q", i+1, got)
		}
	}
	same(t, "the tree", x, m)
}

func TestChangesWhileKeysAreGoneOver(t *testing.T) {
	const n = 200
	for _, change := range []struct {
		what string
		do   func(x *Tree, m map[string]string, k string)
	}{
		{"each goes", func(x *Tree, m map[string]string, k string) {
			x.Drop(k)
			delete(m, k)
		}},
		{"all go", func(x *Tree, m map[string]string, _ string) {
			for _, k := range numbered(n) {
				x.Drop(k)
				delete(m, k)
			}
		}},
		{"each has another value", func(x *Tree, m map[string]string, k string) {
			x.Put(k, "another")
			m[k] = "another"
		}},
		{"others come behind", func(x *Tree, m map[string]string, k string) {
			x.Put(k+"behind", k)
			m[k+"behind"] = k
		}},
		{"others come ahead", func(x *Tree, m map[string]string, k string) {
			x.Put("\x00"+k, k)
			m["\x00"+k] = k
		}},
	} {
		x, m := treeOf(numbered(n)), modelOf(numbered(n))
		want := within(m, api.Span{})
		var got []item
		for k, v := range x.Range(keys.All()) {
			got = append(got, item{k, v})
			change.do(x, m, k)
		}
		if !slices.Equal(got, want) {
			t.Errorf("%s: gone over: %q", change.what, got)
		}
		same(t, change.what, x, m)
	}
}

// Whoever panics while going over keys finds the tree as it was.
func TestPanicWhileKeysAreGoneOver(t *testing.T) {
	x, m := treeOf(numbered(50)), modelOf(numbered(50))
	func() {
		defer func() {
			if recover() != "enough" {
				t.Error("another panic, or none")
			}
		}()
		for range x.Range(keys.All()) {
			panic("enough")
		}
	}()
	same(t, "as it was", x, m)
}

func TestNilTree(t *testing.T) {
	var x *Tree
	for _, k := range []string{"", "k"} {
		if x.Put(k, "v") {
			t.Errorf("Put(%q)", k)
		}
		if v, ok := x.Get(k); v != "" || ok {
			t.Errorf("Get(%q): %q, %v", k, v, ok)
		}
		if x.Drop(k) {
			t.Errorf("Drop(%q)", k)
		}
		for _, s := range []api.Span{{}, {Low: k}, {High: k}, {Low: k, High: "z"}, {Low: "z", High: k}} {
			for k, v := range x.Range(s) {
				t.Errorf("Range(%q): %q, %q", s, k, v)
			}
		}
	}
	if x.Len() != 0 || x.Deep() != 0 {
		t.Errorf("Len %d, Deep %d", x.Len(), x.Deep())
	}
}

func TestZeroTreeIsNew(t *testing.T) {
	var x Tree
	same(t, "zero", &x, nil)
	for i, k := range numbered(20) {
		if !x.Put(k, "v"+k) {
			t.Errorf("%q was there", k)
		}
		sound(t, "zero", &x, i+1)
	}
	same(t, "zero", &x, modelOf(numbered(20)))
}

func TestTreesAreApart(t *testing.T) {
	x, y := New(), New()
	if x == y {
		t.Fatal("New is the same tree twice")
	}
	for i, k := range numbered(100) {
		if i%2 == 0 {
			x.Put(k, "v"+k)
		} else {
			y.Put(k, "v"+k)
		}
	}
	for i, k := range numbered(100) {
		_, inX := x.Get(k)
		_, inY := y.Get(k)
		if inX != (i%2 == 0) || inY != (i%2 == 1) {
			t.Errorf("key %d: %v, %v", i, inX, inY)
		}
	}
	x.Drop(two(0))
	sound(t, "x", x, 49)
	sound(t, "y", y, 50)
}

// A copy of the struct is a tree of its own, as the table of layer 14 takes it.
func TestCopiesAreApart(t *testing.T) {
	l := numbered(300)
	x, m := treeOf(l), modelOf(l)
	y := *x
	for i, key := range l {
		if i%3 == 0 {
			x.Drop(key)
		} else {
			x.Put(key, "other")
		}
		x.Put(key+"new", "")
	}
	same(t, "the copy", &y, m)
	x = treeOf(l)
	z := *x
	for _, key := range l {
		z.Drop(key)
	}
	same(t, "what was copied", x, m)
	same(t, "the copy without keys", &z, nil)
}

func TestTheSameCallsAnswerTheSame(t *testing.T) {
	run := func() []string {
		r := rand.New(rand.NewSource(10))
		x := New()
		var out []string
		for range 2000 {
			k := two(r.Intn(150))
			switch r.Intn(3) {
			case 0:
				out = append(out, fmt.Sprint(x.Drop(k), x.Deep()))
			default:
				out = append(out, fmt.Sprint(x.Put(k, "v"), x.Deep()))
			}
		}
		return append(out, fmt.Sprintf("%q", collect(x.Range(keys.All()))))
	}
	if !slices.Equal(run(), run()) {
		t.Error("the same calls answer otherwise")
	}
}

// Many changes by chance, held against a map; the tree grows and shrinks by turns.
func TestAgainstAMap(t *testing.T) {
	for seed := range int64(8) {
		r := rand.New(rand.NewSource(seed))
		most := []int{9, 30, 100, 600}[seed%4]
		x, m := New(), map[string]string{}
		for step := range 4000 {
			k := two(r.Intn(most))
			v, was := m[k]
			if got, ok := x.Get(k); got != v || ok != was {
				t.Fatalf("seed %d, step %d: Get(%q): %q, %v, want %q, %v", seed, step, k, got, ok, v, was)
			}
			puts := 3
			if step/500%2 == 1 {
				puts = 1
			}
			if r.Intn(4) < puts {
				v = fmt.Sprint(step)
				if x.Put(k, v) == was {
					t.Fatalf("seed %d, step %d: Put(%q)", seed, step, k)
				}
				m[k] = v
			} else {
				if x.Drop(k) != was {
					t.Fatalf("seed %d, step %d: Drop(%q)", seed, step, k)
				}
				delete(m, k)
			}
			sound(t, fmt.Sprint("seed ", seed, ", step ", step), x, len(m))
			if step%20 == 0 {
				s := api.Span{Low: two(r.Intn(most)), High: two(r.Intn(most + 20))}
				if got := collect(x.Range(s)); !slices.Equal(got, within(m, s)) {
					t.Fatalf("seed %d, step %d: Range(%q): %q", seed, step, s, got)
				}
			}
			if step%200 == 0 {
				same(t, fmt.Sprint("seed ", seed, ", step ", step), x, m)
			}
		}
	}
}

func TestGreatTree(t *testing.T) {
	const n = 20000
	for order, l := range orders(numbered(n)) {
		x := treeOf(l)
		sound(t, order, x, n)
		for i, k := range l {
			if v, ok := x.Get(k); v != "v"+k || !ok {
				t.Fatalf("%s: Get(%q): %q, %v", order, k, v, ok)
			}
			if i%2 == 0 {
				x.Drop(k)
			}
		}
		sound(t, order, x, n/2)
		i := 0
		for range x.Range(keys.All()) {
			i++
		}
		if i != n/2 {
			t.Errorf("%s: %d keys gone over", order, i)
		}
	}
}

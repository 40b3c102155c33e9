package merkle

import (
	"crypto/sha256"
	"encoding/hex"
	"math"
	"math/rand"
	"slices"
	"strings"
	"testing"

	"parchment/api"
	"parchment/hash"
)

// small is up to how many leaves every tree is gone through.
const small = 34

func sum(s string) string {
	d := sha256.Sum256([]byte(s))
	return string(d[:])
}

func leafOf(s string) string { return sum("\x00" + s) }

func nodeOf(a, b string) string { return sum("\x01" + a + b) }

// firstHalf is RFC 6962's k: the greatest power of two below n.
func firstHalf(n int) int {
	k := 1
	for k*2 < n {
		k *= 2
	}
	return k
}

// plainRoot is RFC 6962's MTH, word for word.
func plainRoot(leaves []string) string {
	n := len(leaves)
	switch n {
	case 0:
		return sum("")
	case 1:
		return leafOf(leaves[0])
	}
	k := firstHalf(n)
	return nodeOf(plainRoot(leaves[:k]), plainRoot(leaves[k:]))
}

// plainPath is RFC 6962's PATH.
func plainPath(m int, leaves []string) []string {
	n := len(leaves)
	if n == 1 {
		return nil
	}
	k := firstHalf(n)
	if m < k {
		return append(plainPath(m, leaves[:k]), plainRoot(leaves[k:]))
	}
	return append(plainPath(m-k, leaves[k:]), plainRoot(leaves[:k]))
}

// plainGrown is RFC 6962's SUBPROOF.
func plainGrown(m int, leaves []string, b bool) []string {
	n := len(leaves)
	if m == n {
		if b {
			return nil
		}
		return []string{plainRoot(leaves)}
	}
	k := firstHalf(n)
	if m <= k {
		return append(plainGrown(m, leaves[:k], b), plainRoot(leaves[k:]))
	}
	return append(plainGrown(m-k, leaves[k:], false), plainRoot(leaves[:k]))
}

// steps is the root that RFC 9162 (2.1.3.2) comes to from a leaf, by bits instead of halves; false, if the digests are too few or too many.
func steps(leaf string, m, n int, beside []string) (string, bool) {
	f, s, r := m, n-1, leaf
	for _, p := range beside {
		if s == 0 {
			return "", false
		}
		if f%2 == 1 || f == s {
			r = nodeOf(p, r)
			for f%2 == 0 && f != 0 {
				f, s = f>>1, s>>1
			}
		} else {
			r = nodeOf(r, p)
		}
		f, s = f>>1, s>>1
	}
	return r, s == 0
}

// growthSteps is the roots that RFC 9162 (2.1.4.2) comes to, for m below n; false, if the digests are too few or too many.
func growthSteps(old string, m, n int, beside []string) (string, string, bool) {
	if len(beside) == 0 {
		return "", "", false
	}
	if m&(m-1) == 0 {
		beside = append([]string{old}, beside...)
	}
	f, s := m-1, n-1
	for f%2 == 1 {
		f, s = f>>1, s>>1
	}
	a, b := beside[0], beside[0]
	for _, c := range beside[1:] {
		if s == 0 {
			return "", "", false
		}
		if f%2 == 1 || f == s {
			a, b = nodeOf(c, a), nodeOf(c, b)
			for f%2 == 0 && f != 0 {
				f, s = f>>1, s>>1
			}
		} else {
			b = nodeOf(b, c)
		}
		f, s = f>>1, s>>1
	}
	return a, b, s == 0
}

// texts is n leaves' bytes, of unlike lengths, the first one empty.
func texts(n int) []string {
	l := make([]string, n)
	for i := range l {
		l[i] = strings.Repeat(string([]byte{byte(i), byte(i >> 8)}), i%40)
	}
	return l
}

func treeOf(leaves []string) *Tree {
	x := New()
	for _, s := range leaves {
		x.Add(s)
	}
	return x
}

// digests is n texts of 32 bytes that are digests of nothing here.
func digests(n, seed int) []string {
	l := make([]string, n)
	for i := range l {
		l[i] = sum(string([]byte{byte(seed), byte(i), 'd'}))
	}
	return l
}

func told(t *testing.T, what string, got, want api.Errno) {
	t.Helper()
	if got != want {
		t.Errorf("%s: told %d, want %d", what, got, want)
	}
}

func same(t *testing.T, what string, got, want []string) {
	t.Helper()
	if !slices.Equal(got, want) {
		t.Errorf("%s: %x, want %x", what, got, want)
	}
}

func TestKnownRoots(t *testing.T) {
	// The leaves and roots by which logs of RFC 6962 are tested everywhere.
	leaves := []string{"", "00", "10", "2021", "3031", "40414243", "5051525354555657", "606162636465666768696a6b6c6d6e6f"}
	roots := []string{
		"e3b0c44298fc1c149afbf4c8996fb92427ae41e4649b934ca495991b7852b855",
		"6e340b9cffb37a989ca544e6bb780a2c78901d3fb33738768511a30617afa01d",
		"fac54203e7cc696cf0dfcb42c92a1d9dbaf70ad9e621f4bd8d98662f00e3c125",
		"aeb6bcfe274b70a14fb067a5e5578264db0fa9b51af5e0ba159158f329e06e77",
		"d37ee418976dd95753c1c73862b9398fa2a2cf9b4ff0fdfe8b30cd95209614b7",
		"4e3bbb1f7b478dcfe71fb631631519a3bca12c9aefca1612bfce4c13a86264d4",
		"76e67dadbcdf1e10e1b74ddc608abd2f98dfb16fbce75277b5232a127f2087ef",
		"ddb89be403809e325750d3d263cd78929c2942b7942a34b77e122c9594a74c8c",
		"5dc9da79a70659a9ad559cb701ded9a2ab9d823aad2f4960cfe370eff4604328",
	}
	x := New()
	for i, want := range roots {
		if x.Len() != i || hex.EncodeToString([]byte(x.Root())) != want {
			t.Errorf("%d leaves: Len %d, Root %x, want %s", i, x.Len(), x.Root(), want)
		}
		if i < len(leaves) {
			b, _ := hex.DecodeString(leaves[i])
			x.Add(string(b))
		}
	}
	for n, want := range roots {
		r, e := x.RootAt(n)
		if e != api.OK || hex.EncodeToString([]byte(r)) != want {
			t.Errorf("RootAt(%d): %x, %d, want %s", n, r, e, want)
		}
	}
}

func TestAddAnswersTheLeafsDigest(t *testing.T) {
	x := New()
	for i, s := range append(texts(20), "again", "again", strings.Repeat("long", 100000)) {
		if d := x.Add(s); d != leafOf(s) || d != hash.Leaf(s) {
			t.Errorf("Add of leaf %d: %x, want %x", i, d, leafOf(s))
		}
		if x.Len() != i+1 {
			t.Errorf("Len behind leaf %d: %d", i, x.Len())
		}
	}
}

func TestEveryRootOfSmallTrees(t *testing.T) {
	leaves := texts(small)
	for all := 0; all <= small; all++ {
		x := treeOf(leaves[:all])
		if x.Root() != plainRoot(leaves[:all]) {
			t.Errorf("Root of %d: %x", all, x.Root())
		}
		for n := 0; n <= all; n++ {
			r, e := x.RootAt(n)
			if e != api.OK || r != plainRoot(leaves[:n]) {
				t.Errorf("RootAt(%d) of %d: %x, %d", n, all, r, e)
			}
		}
	}
}

func TestEveryLeafOfSmallTrees(t *testing.T) {
	leaves := texts(small)
	x := treeOf(leaves)
	for n := 1; n <= small; n++ {
		root := plainRoot(leaves[:n])
		for m := range n {
			p, e := x.Path(m, n)
			told(t, "Path", e, api.OK)
			same(t, "Path", p, plainPath(m, leaves[:n]))
			told(t, "Verify", Verify(root, leafOf(leaves[m]), m, n, p), api.OK)
		}
	}
}

func TestEveryGrowthOfSmallTrees(t *testing.T) {
	leaves := texts(small)
	x := treeOf(leaves)
	for n := 1; n <= small; n++ {
		now := plainRoot(leaves[:n])
		for m := 1; m <= n; m++ {
			old := plainRoot(leaves[:m])
			p, e := x.Grown(m, n)
			told(t, "Grown", e, api.OK)
			same(t, "Grown", p, plainGrown(m, leaves[:n], true))
			told(t, "Consistent", Consistent(old, now, m, n, p), api.OK)
		}
	}
}

func TestGrownOfAllIsNothing(t *testing.T) {
	x := treeOf(texts(20))
	for n := 1; n <= 20; n++ {
		p, e := x.Grown(n, n)
		r, _ := x.RootAt(n)
		if e != api.OK || len(p) != 0 {
			t.Errorf("Grown(%d, %d): %x, %d", n, n, p, e)
		}
		told(t, "of itself", Consistent(r, r, n, n, nil), api.OK)
		told(t, "of itself, an empty list", Consistent(r, r, n, n, []string{}), api.OK)
		told(t, "of another one", Consistent(r, sum("x"), n, n, nil), api.ErrProof)
		told(t, "with its root", Consistent(r, r, n, n, []string{r}), api.ErrProof)
	}
}

// The root of first leaves that are all of a half is known, so it isn't told; of those that end within a second half some root is.
func TestGrowthFromAHalf(t *testing.T) {
	l := texts(8)
	x := treeOf(l)
	d := func(from, to int) string { return plainRoot(l[from:to]) }
	for _, c := range []struct {
		m, n int
		want []string
	}{
		{1, 2, []string{d(1, 2)}},
		{2, 3, []string{d(2, 3)}},
		{4, 7, []string{d(4, 7)}},
		{4, 8, []string{d(4, 8)}},
		{2, 8, []string{d(2, 4), d(4, 8)}},
		{3, 7, []string{d(2, 3), d(3, 4), d(0, 2), d(4, 7)}},
		{6, 7, []string{d(4, 6), d(6, 7), d(0, 4)}},
		{6, 8, []string{d(4, 6), d(6, 8), d(0, 4)}},
		{7, 8, []string{d(6, 7), d(7, 8), d(4, 6), d(0, 4)}},
	} {
		p, e := x.Grown(c.m, c.n)
		told(t, "Grown", e, api.OK)
		same(t, "Grown", p, c.want)
		told(t, "Consistent", Consistent(d(0, c.m), d(0, c.n), c.m, c.n, p), api.OK)
		told(t, "of another old root", Consistent(sum("old"), d(0, c.n), c.m, c.n, p), api.ErrProof)
		told(t, "of another root now", Consistent(d(0, c.m), sum("now"), c.m, c.n, p), api.ErrProof)
		told(t, "with the old root told", Consistent(d(0, c.m), d(0, c.n), c.m, c.n, append([]string{d(0, c.m)}, p...)), api.ErrProof)
	}
}

func TestPathOfSeven(t *testing.T) {
	// RFC 6962, 2.1.3: the ways of leaves 0, 3, 4 and 6.
	l := texts(7)
	x := treeOf(l)
	d := func(from, to int) string { return plainRoot(l[from:to]) }
	for m, want := range map[int][]string{
		0: {d(1, 2), d(2, 4), d(4, 7)},
		3: {d(2, 3), d(0, 2), d(4, 7)},
		4: {d(5, 6), d(6, 7), d(0, 4)},
		6: {d(4, 6), d(0, 4)},
	} {
		p, e := x.Path(m, 7)
		told(t, "Path", e, api.OK)
		same(t, "Path", p, want)
	}
}

func TestRoundNumbersAndTheirNeighbours(t *testing.T) {
	const most = 1025
	leaves := texts(most)
	x := treeOf(leaves)
	var counts []int
	for k := 1; k <= 1024; k *= 2 {
		for n := max(k-1, 1); n <= k+1; n++ {
			counts = append(counts, n)
		}
	}
	roots := make([]string, most+1)
	for _, n := range counts {
		roots[n] = plainRoot(leaves[:n])
	}
	for _, n := range counts {
		r, e := x.RootAt(n)
		if e != api.OK || r != roots[n] {
			t.Errorf("RootAt(%d): %x, %d", n, r, e)
		}
		for _, m := range counts {
			if m > n {
				continue
			}
			p, e := x.Path(m-1, n)
			told(t, "Path", e, api.OK)
			told(t, "Verify", Verify(r, leafOf(leaves[m-1]), m-1, n, p), api.OK)
			p, e = x.Grown(m, n)
			told(t, "Grown", e, api.OK)
			told(t, "Consistent", Consistent(roots[m], r, m, n, p), api.OK)
		}
	}
}

func TestNumbersOutOfBounds(t *testing.T) {
	for _, x := range []*Tree{treeOf(texts(5)), New(), {}, nil} {
		n := x.Len()
		for _, wrong := range []int{-1, n + 1, math.MinInt, math.MaxInt, math.MinInt32, 1 << 31, 1 << 32} {
			if r, e := x.RootAt(wrong); r != "" || e != api.ErrArg {
				t.Errorf("RootAt(%d) of %d: %x, %d", wrong, n, r, e)
			}
			for m := -1; m <= n+2; m++ {
				if p, e := x.Path(m, wrong); p != nil || e != api.ErrArg {
					t.Errorf("Path(%d, %d) of %d: %x, %d", m, wrong, n, p, e)
				}
				if p, e := x.Grown(m, wrong); p != nil || e != api.ErrArg {
					t.Errorf("Grown(%d, %d) of %d: %x, %d", m, wrong, n, p, e)
				}
			}
		}
		for k := 0; k <= n; k++ {
			for _, m := range []int{-1, k, k + 1, math.MinInt, math.MaxInt} {
				if p, e := x.Path(m, k); p != nil || e != api.ErrArg {
					t.Errorf("Path(%d, %d) of %d: %x, %d", m, k, n, p, e)
				}
			}
			for _, m := range []int{-1, 0, k + 1, math.MinInt, math.MaxInt} {
				if p, e := x.Grown(m, k); p != nil || e != api.ErrArg {
					t.Errorf("Grown(%d, %d) of %d: %x, %d", m, k, n, p, e)
				}
			}
		}
	}
}

func TestNilTreeHasNoLeaves(t *testing.T) {
	var x *Tree
	if d := x.Add("leaf"); d != "" {
		t.Errorf("Add: %x", d)
	}
	if x.Len() != 0 || x.Root() != sum("") {
		t.Errorf("Len %d, Root %x", x.Len(), x.Root())
	}
	if r, e := x.RootAt(0); r != sum("") || e != api.OK {
		t.Errorf("RootAt(0): %x, %d", r, e)
	}
	_, e := x.Path(0, 0)
	told(t, "Path", e, api.ErrArg)
	_, e = x.Grown(0, 0)
	told(t, "Grown", e, api.ErrArg)
}

func TestZeroTreeIsNew(t *testing.T) {
	var x Tree
	if x.Len() != 0 || x.Root() != sum("") {
		t.Errorf("Len %d, Root %x", x.Len(), x.Root())
	}
	x.Add("a")
	x.Add("b")
	if x.Len() != 2 || x.Root() != nodeOf(leafOf("a"), leafOf("b")) {
		t.Errorf("Len %d, Root %x", x.Len(), x.Root())
	}
}

func TestTreesAreApart(t *testing.T) {
	x, y := New(), New()
	if x == nil || x == y {
		t.Fatal("New is not a tree of its own")
	}
	x.Add("a")
	if y.Len() != 0 || y.Root() != sum("") {
		t.Errorf("Len %d, Root %x", y.Len(), y.Root())
	}
}

func TestVerifyWrongArguments(t *testing.T) {
	r, l := sum("root"), sum("leaf")
	for _, c := range []struct {
		what       string
		root, leaf string
		m, n       int
	}{
		{"m below 0", l, l, -1, 1},
		{"m at n", l, l, 1, 1},
		{"m above n", l, l, 7, 3},
		{"no leaves", l, l, 0, 0},
		{"fewer than none", l, l, 0, -1},
		{"both below 0", l, l, -2, -1},
		{"least m", l, l, math.MinInt, 1},
		{"least n", l, l, 0, math.MinInt},
		{"most m", l, l, math.MaxInt, math.MaxInt},
		{"n above MostLeaves", l, l, 0, api.MostLeaves + 1},
		{"most n", l, l, 0, math.MaxInt},
		{"no root", "", l, 0, 1},
		{"root of 31", r[1:], l, 0, 2},
		{"root of 33", r + "x", l, 0, 2},
		{"no leaf", r, "", 0, 1},
		{"leaf of 31", r, l[1:], 0, 2},
		{"leaf of 33", r, l + "x", 0, 2},
		{"neither", "", "", 0, 1},
		{"leaf and root alike, of 31", l[1:], l[1:], 0, 1},
	} {
		// ErrArg stands ahead of ErrProof: so whatever is beside.
		for _, beside := range [][]string{nil, {r}, {"short"}, digests(65, 1)} {
			told(t, c.what, Verify(c.root, c.leaf, c.m, c.n, beside), api.ErrArg)
		}
	}
}

func TestConsistentWrongArguments(t *testing.T) {
	a, b := sum("old"), sum("now")
	for _, c := range []struct {
		what     string
		old, now string
		m, n     int
	}{
		{"m of 0", a, a, 0, 1},
		{"m and n of 0", a, a, 0, 0},
		{"m below 0", a, a, -1, 1},
		{"both below 0", a, a, -1, -1},
		{"m above n", a, a, 2, 1},
		{"least m", a, a, math.MinInt, 1},
		{"least n", a, a, 1, math.MinInt},
		{"n above MostLeaves", a, b, 1, api.MostLeaves + 1},
		{"both above MostLeaves", a, a, api.MostLeaves + 1, api.MostLeaves + 1},
		{"most of both", a, a, math.MaxInt, math.MaxInt},
		{"no old", "", b, 1, 2},
		{"old of 31", a[1:], b, 1, 2},
		{"old of 33", a + "x", b, 1, 2},
		{"no now", a, "", 1, 2},
		{"now of 31", a, b[1:], 1, 2},
		{"now of 33", a, b + "x", 1, 2},
		{"neither", "", "", 1, 1},
		{"alike, of 33", a + "x", a + "x", 3, 3},
	} {
		for _, beside := range [][]string{nil, {a}, {"short"}, digests(65, 1)} {
			told(t, c.what, Consistent(c.old, c.now, c.m, c.n, beside), api.ErrArg)
		}
	}
}

// wrongWays is a way with one thing done to it: too few, too many, one of another length, one byte that is another one, two that stand in each other's place.
func wrongWays(way []string) [][]string {
	var l [][]string
	other := sum("other")
	for i := 0; i <= len(way); i++ {
		l = append(l, slices.Insert(slices.Clone(way), i, other), slices.Insert(slices.Clone(way), i, ""))
	}
	for i, d := range way {
		l = append(l, slices.Delete(slices.Clone(way), i, i+1), slices.Insert(slices.Clone(way), i, d))
		for _, s := range []string{"", d[1:], d[:31], d + "\x00", "\x00" + d, d + d} {
			l = append(l, replaced(way, i, s))
		}
		for k := range d {
			l = append(l, replaced(way, i, d[:k]+string([]byte{d[k] ^ 1})+d[k+1:]))
		}
		if i > 0 {
			l = append(l, replaced(replaced(way, i, way[i-1]), i-1, d))
		}
	}
	return l
}

func replaced(way []string, i int, s string) []string {
	l := slices.Clone(way)
	l[i] = s
	return l
}

func TestVerifyRefusesWrongWays(t *testing.T) {
	leaves := texts(13)
	x := treeOf(leaves)
	for _, n := range []int{1, 2, 3, 4, 7, 8, 13} {
		root, _ := x.RootAt(n)
		for m := range n {
			leaf := leafOf(leaves[m])
			p, _ := x.Path(m, n)
			for i, w := range wrongWays(p) {
				if e := Verify(root, leaf, m, n, w); e != api.ErrProof {
					t.Errorf("leaf %d of %d, wrong way %d: told %d", m, n, i, e)
				}
			}
			told(t, "another root", Verify(flipped(root), leaf, m, n, p), api.ErrProof)
			told(t, "another leaf", Verify(root, flipped(leaf), m, n, p), api.ErrProof)
			for k := range n {
				if k != m {
					told(t, "another place", Verify(root, leaf, k, n, p), api.ErrProof)
				}
			}
		}
	}
}

func TestConsistentRefusesWrongWays(t *testing.T) {
	x := treeOf(texts(13))
	for _, n := range []int{1, 2, 3, 4, 7, 8, 13} {
		now, _ := x.RootAt(n)
		for m := 1; m <= n; m++ {
			old, _ := x.RootAt(m)
			p, _ := x.Grown(m, n)
			for i, w := range wrongWays(p) {
				if e := Consistent(old, now, m, n, w); e != api.ErrProof {
					t.Errorf("growth from %d to %d, wrong way %d: told %d", m, n, i, e)
				}
			}
			told(t, "another old", Consistent(flipped(old), now, m, n, p), api.ErrProof)
			told(t, "another now", Consistent(old, flipped(now), m, n, p), api.ErrProof)
			for k := 1; k <= n; k++ {
				if k != m {
					told(t, "another number", Consistent(old, now, k, n, p), api.ErrProof)
				}
			}
		}
	}
}

// Texts of another length are refused also where they come to the roots.
func TestOtherLengthsThatComeToTheRoots(t *testing.T) {
	leaf, old := sum("leaf"), sum("old")
	for _, s := range []string{"", "x", leaf[1:], leaf + "x", leaf + leaf} {
		for i := range 3 {
			beside := replaced(digests(3, 4), i, s)
			root, ok := steps(leaf, 5, 8, beside)
			if !ok {
				t.Fatal("3 digests do not show a leaf of 8")
			}
			told(t, "Verify", Verify(root, leaf, 5, 8, beside), api.ErrProof)
			// From 6 to 8 all three are other ones' roots; from 1 to 8 they stand behind the old one.
			for _, m := range []int{6, 1} {
				first, now, ok := growthSteps(old, m, 8, beside)
				if !ok {
					t.Fatal("3 digests do not show growth to 8")
				}
				told(t, "Consistent", Consistent(first, now, m, 8, beside), api.ErrProof)
			}
		}
	}
}

// flipped is a digest with its last bit another one.
func flipped(s string) string { return s[:31] + string([]byte{s[31] ^ 1}) }

// Of each growth from a power of two the old root is in both; both must still be held against what was handed in.
func TestConsistentHoldsBothRoots(t *testing.T) {
	x, y := treeOf(texts(6)), New()
	for range 6 {
		y.Add("y")
	}
	for m := 1; m < 6; m++ {
		ours, _ := x.RootAt(m)
		theirs, _ := y.RootAt(m)
		p, _ := x.Grown(m, 6)
		q, _ := y.Grown(m, 6)
		told(t, "theirs to ours", Consistent(theirs, x.Root(), m, 6, p), api.ErrProof)
		told(t, "ours to theirs", Consistent(ours, y.Root(), m, 6, p), api.ErrProof)
		told(t, "theirs to ours by their way", Consistent(theirs, x.Root(), m, 6, q), api.ErrProof)
		told(t, "roots exchanged", Consistent(x.Root(), ours, m, 6, p), api.ErrProof)
	}
}

func TestHowManyDigests(t *testing.T) {
	leaf := sum("leaf")
	for _, c := range []struct{ m, n, want int }{
		{0, 1, 0}, {0, 2, 1}, {1, 2, 1}, {0, 3, 2}, {2, 3, 1}, {0, 5, 3}, {4, 5, 1},
		{0, api.MostLeaves, 31}, {api.MostLeaves - 1, api.MostLeaves, 31},
		{api.MostLeaves - 2, api.MostLeaves - 1, 30}, {1 << 30, 1<<30 + 1, 1}, {0, 1<<30 + 1, 31},
	} {
		for many := 0; many <= 70; many++ {
			beside := digests(many, 2)
			root, _ := steps(leaf, c.m, c.n, beside)
			if root == "" {
				root = sum("any")
			}
			want := api.ErrProof
			if many == c.want {
				want = api.OK
			}
			if e := Verify(root, leaf, c.m, c.n, beside); e != want {
				t.Errorf("leaf %d of %d with %d digests: told %d, want %d", c.m, c.n, many, e, want)
			}
		}
	}
}

func TestHowManyDigestsOfGrowth(t *testing.T) {
	for _, c := range []struct{ m, n, want int }{
		{1, 2, 1}, {2, 3, 1}, {3, 4, 3}, {3, 7, 4}, {4, 7, 1}, {6, 8, 3},
		{1, api.MostLeaves, 31}, {api.MostLeaves / 2, api.MostLeaves, 1},
		{api.MostLeaves - 1, api.MostLeaves, 32}, {3, api.MostLeaves, 32}, {1 << 30, 1<<30 + 1, 1},
	} {
		for many := 1; many <= 70; many++ {
			beside := digests(many, 3)
			old := sum("old")
			first, now, _ := growthSteps(old, c.m, c.n, beside)
			if first == "" {
				first, now = old, sum("any")
			}
			want := api.ErrProof
			if many == c.want {
				want = api.OK
			}
			if e := Consistent(first, now, c.m, c.n, beside); e != want {
				t.Errorf("growth from %d to %d with %d digests: told %d, want %d", c.m, c.n, many, e, want)
			}
		}
	}
	told(t, "most leaves, of themselves", Consistent(sum("r"), sum("r"), api.MostLeaves, api.MostLeaves, nil), api.OK)
}

// Of great trees, which nobody builds here, what is told is that of RFC 9162's steps.
func TestGreatTreesAsBySteps(t *testing.T) {
	r := rand.New(rand.NewSource(8))
	shown := 0
	for i := range 3000 {
		n := 1 + r.Intn(1<<(1+r.Intn(31)))
		m := r.Intn(n)
		leaf, beside := sum("leaf"), digests(r.Intn(33), i)
		root, ok := steps(leaf, m, n, beside)
		if root == "" {
			root = sum("any")
		}
		want := api.ErrProof
		if ok {
			want = api.OK
			shown++
		}
		if e := Verify(root, leaf, m, n, beside); e != want {
			t.Fatalf("leaf %d of %d with %d digests: told %d, want %d", m, n, len(beside), e, want)
		}
		if m == 0 {
			continue
		}
		old := sum("old")
		first, now, ok := growthSteps(old, m, n, beside)
		if first == "" {
			first, now = old, sum("any")
		}
		want = api.ErrProof
		if ok {
			want = api.OK
			shown++
		}
		if e := Consistent(first, now, m, n, beside); e != want {
			t.Fatalf("growth from %d to %d with %d digests: told %d, want %d", m, n, len(beside), e, want)
		}
	}
	if shown < 50 {
		t.Errorf("only %d of these came to their root", shown)
	}
}

// Between the calls that add, roots and ways of every number of first leaves are those that they were.
func TestWhatWasShownStays(t *testing.T) {
	leaves := texts(70)
	x := New()
	for i, s := range leaves {
		x.Add(s)
		for _, n := range []int{1, 2, 5, 8, i/2 + 1, i, i + 1} {
			if n < 1 || n > i+1 {
				continue
			}
			r, e := x.RootAt(n)
			if e != api.OK || r != plainRoot(leaves[:n]) {
				t.Errorf("RootAt(%d) of %d: %x, %d", n, i+1, r, e)
			}
			p, _ := x.Path(n/2, n)
			same(t, "Path", p, plainPath(n/2, leaves[:n]))
			q, _ := x.Grown(n, i+1)
			same(t, "Grown", q, plainGrown(n, leaves[:i+1], true))
		}
	}
}

func TestAnswersAreTheCallersOwn(t *testing.T) {
	leaves := texts(11)
	x := treeOf(leaves)
	for range 2 {
		p, _ := x.Path(3, 11)
		q, _ := x.Grown(3, 11)
		same(t, "Path", p, plainPath(3, leaves))
		same(t, "Grown", q, plainGrown(3, leaves, true))
		for _, l := range [][]string{p[:cap(p)], q[:cap(q)]} {
			for i := range l {
				l[i] = "changed"
			}
		}
	}
	if x.Root() != plainRoot(leaves) {
		t.Errorf("Root: %x", x.Root())
	}
}

func TestWhatIsHandedInStays(t *testing.T) {
	leaves := texts(11)
	x := treeOf(leaves)
	now := x.Root()
	old, _ := x.RootAt(3)
	p, _ := x.Path(3, 11)
	q, _ := x.Grown(3, 11)
	pp, qq := slices.Clone(p), slices.Clone(q)
	// The same calls answer the same, however often they are made.
	for range 3 {
		told(t, "Verify", Verify(now, leafOf(leaves[3]), 3, 11, p), api.OK)
		told(t, "Verify", Verify(now, leafOf(leaves[3]), 4, 11, p), api.ErrProof)
		told(t, "Consistent", Consistent(old, now, 3, 11, q), api.OK)
		told(t, "Consistent", Consistent(old, now, 4, 11, q), api.ErrProof)
	}
	same(t, "Verify's", p, pp)
	same(t, "Consistent's", q, qq)
}

func TestManyLeaves(t *testing.T) {
	const many = 40000
	x := New()
	leaves := make([]string, many)
	for i := range leaves {
		leaves[i] = string([]byte{byte(i), byte(i >> 8)})
		x.Add(leaves[i])
	}
	if x.Root() != plainRoot(leaves) {
		t.Errorf("Root: %x", x.Root())
	}
	r := rand.New(rand.NewSource(80))
	for range 500 {
		n := 1 + r.Intn(many)
		m := 1 + r.Intn(n)
		now, _ := x.RootAt(n)
		old, _ := x.RootAt(m)
		p, _ := x.Path(m-1, n)
		told(t, "Verify", Verify(now, leafOf(leaves[m-1]), m-1, n, p), api.OK)
		q, _ := x.Grown(m, n)
		told(t, "Consistent", Consistent(old, now, m, n, q), api.OK)
	}
}

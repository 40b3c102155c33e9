package block

import (
	"crypto/sha256"
	"encoding/binary"
	"encoding/hex"
	"fmt"
	"math"
	"math/rand"
	"slices"
	"strings"
	"testing"

	"parchment/api"
	"parchment/hash"
	"parchment/merkle"
)

func sum(s string) string {
	d := sha256.Sum256([]byte(s))
	return string(d[:])
}

func leaf(s string) string { return sum("\x00" + s) }

func num(n uint64) string { return string(binary.AppendUvarint(nil, n)) }

func text(s string) string { return num(uint64(len(s))) + s }

// plainMeta is a revision's meta, in the chapter's words.
func plainMeta(r api.Rev) string {
	return string([]byte{byte(r.Op)}) + text(r.Table) + text(r.Field) + num(r.Doc) + num(r.Version) + text(r.Hash)
}

// plainRoot is RFC 6962's root of leaves.
func plainRoot(leaves []string) string {
	switch len(leaves) {
	case 0:
		return sum("")
	case 1:
		return leaf(leaves[0])
	}
	k := 1
	for 2*k < len(leaves) {
		k *= 2
	}
	return sum("\x01" + plainRoot(leaves[:k]) + plainRoot(leaves[k:]))
}

// plainHead is what the header and the frame have in common.
func plainHead(b api.Block) string {
	return num(b.Seq) + text(b.Prev) + num(b.Tx) + num(uint64(len(b.Revs)))
}

func plainMetas(b api.Block) []string {
	var out []string
	for _, r := range b.Revs {
		out = append(out, plainMeta(r))
	}
	return out
}

// digest is a text that looks like a digest.
func digest(of string) string { return leaf("some " + of) }

func table(t string) api.Rev    { return api.Rev{Op: api.OpTable, Table: t} }
func index(t, f string) api.Rev { return api.Rev{Op: api.OpIndex, Table: t, Field: f} }
func insert(t string, doc uint64, body string) api.Rev {
	return api.Rev{Op: api.OpInsert, Table: t, Doc: doc, Hash: leaf(body), Body: body}
}
func update(t string, doc, version uint64, body string) api.Rev {
	return api.Rev{Op: api.OpUpdate, Table: t, Doc: doc, Version: version, Hash: leaf(body), Body: body}
}
func remove(t string, doc, version uint64) api.Rev {
	return api.Rev{Op: api.OpDelete, Table: t, Doc: doc, Version: version}
}

// gone is a revision whose body was taken out.
func gone(r api.Rev) api.Rev {
	r.Body, r.Gone = "", true
	return r
}

// sample is a block with a revision of each operation.
func sample() api.Block {
	return api.Block{Seq: 300, Prev: digest("block"), Tx: 70000, Revs: []api.Rev{
		table("t"), index("t", "f"), insert("t", 1, "one"), update("t", 1, 1, "two"), remove("t", 1, 2),
		insert("t", 2, ""), gone(update("t", 2, 1, "three")),
	}}
}

// many is a block of n revisions.
func many(n int) api.Block {
	b := api.Block{Seq: 5, Prev: digest("block"), Tx: 6}
	for i := range n {
		b.Revs = append(b.Revs, insert("t", uint64(i+1), fmt.Sprint("body ", i)))
	}
	return b
}

func same(a, b api.Block) bool {
	return a.Seq == b.Seq && a.Prev == b.Prev && a.Tx == b.Tx && slices.Equal(a.Revs, b.Revs)
}

func clone(b api.Block) api.Block {
	b.Revs = slices.Clone(b.Revs)
	return b
}

// allGone is a block whose bodies are all gone.
func allGone(b api.Block) api.Block {
	b = clone(b)
	for i, r := range b.Revs {
		if r.Op == api.OpInsert || r.Op == api.OpUpdate {
			b.Revs[i] = gone(r)
		}
	}
	return b
}

// changed is a revision after a change.
func changed(r api.Rev, f func(r *api.Rev)) api.Rev {
	f(&r)
	return r
}

func isZero(b api.Block) bool {
	return b.Seq == 0 && b.Prev == "" && b.Tx == 0 && len(b.Revs) == 0
}

// Promise 9.1: Sealed has the digest of its body's leaf, where its operation has a body.
func TestSealed(t *testing.T) {
	for _, body := range []string{"", "x", strings.Repeat("y", api.MaxValue), strings.Repeat("y", api.MaxValue+1)} {
		for op := -1; op <= 7; op++ {
			r := api.Rev{Op: op, Table: "t", Field: "f", Doc: 7, Version: 8, Hash: "before", Body: body}
			want := r
			if op == api.OpInsert || op == api.OpUpdate {
				want.Hash = leaf(body)
			}
			if got := Sealed(r); got != want {
				t.Errorf("Sealed(%#v) = %#v, want %#v", r, got, want)
			}
		}
	}
	for _, r := range sample().Revs {
		if !r.Gone && Sealed(r) != r {
			t.Errorf("Sealed(%#v) is another one", r)
		}
	}
	if e := Check(Sealed(api.Rev{Op: api.OpInsert, Table: "t", Doc: 1, Body: "x"})); e != api.OK {
		t.Errorf("Check of one that is sealed: %d", e)
	}
}

// Promise 9.1: the revisions that may be.
func TestCheckMay(t *testing.T) {
	longest := strings.Repeat("n", api.MaxName)
	full := strings.Repeat("b", api.MaxValue)
	for _, r := range []api.Rev{
		table("t"), table("_"), table("Z9"), table(longest),
		index("t", "f"), index("t", "t"), index(longest, longest),
		insert("t", 1, "x"), insert("t", 1, ""), insert(longest, math.MaxUint64, full),
		update("t", 1, 1, "x"), update("t", 1, 1, ""), update("t", math.MaxUint64, math.MaxUint64, full),
		remove("t", 1, 1), remove("t", math.MaxUint64, math.MaxUint64),
		gone(insert("t", 1, "x")), gone(insert("t", 1, "")), gone(update("t", 1, 1, full)),
		// Nobody can tell any more what its body was.
		changed(gone(insert("t", 1, "x")), func(r *api.Rev) { r.Hash = strings.Repeat("\x00", 32) }),
	} {
		if e := Check(r); e != api.OK {
			t.Errorf("Check(%#v) = %d, want OK", r, e)
		}
	}
}

// Promise 9.1: Check refuses what may not be of all operations.
func TestCheckMayNot(t *testing.T) {
	one := []api.Rev{table("t"), index("t", "f"), insert("t", 1, "x"), update("t", 1, 1, "x"), remove("t", 1, 1), gone(insert("t", 1, "x")), gone(update("t", 1, 1, "x"))}
	for _, r := range one {
		refused := map[string]func(r *api.Rev){
			"Body":     func(r *api.Rev) { r.Body += "y" },
			"Hash":     func(r *api.Rev) { r.Hash += "y" },
			"no hash":  func(r *api.Rev) { r.Body, r.Hash = "x", "" },
			"short":    func(r *api.Rev) { r.Hash = strings.Repeat("h", api.HashBytes-1) },
			"bodyless": func(r *api.Rev) { r.Body, r.Hash = "", "" },
		}
		if r.Op == api.OpTable || r.Op == api.OpIndex || r.Op == api.OpDelete {
			delete(refused, "bodyless")
			refused["sealed body"] = func(r *api.Rev) { r.Body, r.Hash = "x", leaf("x") }
			refused["hash alone"] = func(r *api.Rev) { r.Hash = leaf("") }
			refused["body alone"] = func(r *api.Rev) { r.Body = "x" }
			refused["gone"] = func(r *api.Rev) { r.Gone = true }
			refused["gone, with a hash"] = func(r *api.Rev) { r.Gone, r.Hash = true, leaf("") }
		}
		for what, f := range refused {
			c := changed(r, f)
			if e := Check(c); e != api.ErrForm {
				t.Errorf("%s: Check(%#v) = %d, want ErrForm", what, c, e)
			}
		}
	}
}

// Promise 9.1: what an operation has not is zero, and what it has is not; Version is 0 just when a document comes.
func TestCheckParts(t *testing.T) {
	has := func(r api.Rev) (field, doc, version bool) {
		return r.Op == api.OpIndex, r.Op > api.OpIndex, r.Op > api.OpInsert
	}
	for _, r := range []api.Rev{table("t"), index("t", "f"), insert("t", 1, "x"), update("t", 1, 1, "x"), remove("t", 1, 1), gone(insert("t", 1, "x")), gone(update("t", 1, 1, "x"))} {
		field, doc, version := has(r)
		for i, c := range []struct {
			r  api.Rev
			ok bool
		}{
			{changed(r, func(r *api.Rev) { r.Field = "" }), !field},
			{changed(r, func(r *api.Rev) { r.Field = "g" }), field},
			{changed(r, func(r *api.Rev) { r.Doc = 0 }), !doc},
			{changed(r, func(r *api.Rev) { r.Doc = 2 }), doc},
			{changed(r, func(r *api.Rev) { r.Doc = math.MaxUint64 }), doc},
			{changed(r, func(r *api.Rev) { r.Version = 0 }), !version},
			{changed(r, func(r *api.Rev) { r.Version = 2 }), version},
			{changed(r, func(r *api.Rev) { r.Version = math.MaxUint64 }), version},
		} {
			want := api.ErrForm
			if c.ok {
				want = api.OK
			}
			if e := Check(c.r); e != want {
				t.Errorf("%d: Check(%#v) = %d, want %d", i, c.r, e, want)
			}
		}
	}
}

// Promise 9.1: Table and Field are names.
func TestCheckNames(t *testing.T) {
	none := []string{"", "9", "9a", "a b", "a-b", "a.b", "é", "a\x00", "\xff", " ", strings.Repeat("n", api.MaxName+1)}
	for _, r := range []api.Rev{table("t"), index("t", "f"), insert("t", 1, "x"), update("t", 1, 1, "x"), remove("t", 1, 1), gone(insert("t", 1, "x"))} {
		for _, name := range none {
			if e := Check(changed(r, func(r *api.Rev) { r.Table = name })); e != api.ErrForm {
				t.Errorf("Op %d, Table %q: %d, want ErrForm", r.Op, name, e)
			}
		}
	}
	for _, name := range none {
		if e := Check(index("t", name)); e != api.ErrForm {
			t.Errorf("Field %q: %d, want ErrForm", name, e)
		}
	}
}

// Promise 9.1: no other operation may be.
func TestCheckOperations(t *testing.T) {
	for _, op := range []int{0, -1, 6, 7, 255, 256, 257, 259, -253, math.MaxInt, math.MinInt} {
		for _, r := range append(sample().Revs, api.Rev{}, api.Rev{Table: "t"}) {
			r.Op = op
			if e := Check(r); e != api.ErrForm {
				t.Errorf("Check(%#v) = %d, want ErrForm", r, e)
			}
		}
	}
}

// Promise 9.1: bodies have at most MaxValue bytes, whose leaf's digest is Hash; of one that is gone there are none.
func TestCheckBodies(t *testing.T) {
	over := strings.Repeat("b", api.MaxValue+1)
	for _, r := range []api.Rev{
		insert("t", 1, over), update("t", 1, 1, over), insert("t", 1, over+over),
		changed(insert("t", 1, "x"), func(r *api.Rev) { r.Hash = leaf("y") }),
		changed(insert("t", 1, "x"), func(r *api.Rev) { r.Hash = sum("x") }),
		changed(insert("t", 1, "x"), func(r *api.Rev) { r.Hash = leaf("") }),
		changed(insert("t", 1, "x"), func(r *api.Rev) { r.Hash = r.Hash[:31] }),
		changed(insert("t", 1, "x"), func(r *api.Rev) { r.Hash = hex.EncodeToString([]byte(r.Hash)) }),
		changed(insert("t", 1, "x"), func(r *api.Rev) { r.Body = "" }),
		changed(insert("t", 1, "x"), func(r *api.Rev) { r.Gone = true }),
		changed(update("t", 1, 1, "x"), func(r *api.Rev) { r.Gone = true }),
		changed(gone(insert("t", 1, "x")), func(r *api.Rev) { r.Gone = false }),
		changed(gone(insert("t", 1, "x")), func(r *api.Rev) { r.Hash = "" }),
		changed(gone(insert("t", 1, "x")), func(r *api.Rev) { r.Hash = r.Hash[1:] }),
		changed(gone(insert("t", 1, "x")), func(r *api.Rev) { r.Hash += "\x00" }),
	} {
		if e := Check(r); e != api.ErrForm {
			t.Errorf("Check(%#v) = %d, want ErrForm", r, e)
		}
	}
}

// Promise 9.1: RevHash is the leaf's digest of the meta, in bytes that are written out here.
func TestRevHash(t *testing.T) {
	h := leaf("x")
	for _, c := range []struct {
		r    api.Rev
		meta string
	}{
		{table("t"), "\x01\x01t\x00\x00\x00\x00"},
		{index("tab", "fi"), "\x02\x03tab\x02fi\x00\x00\x00"},
		{insert("t", 300, "x"), "\x03\x01t\x00\xac\x02\x00\x20" + h},
		{update("t", 1, 128, "x"), "\x04\x01t\x00\x01\x80\x01\x20" + h},
		{remove("t", 127, 2), "\x05\x01t\x00\x7f\x02\x00"},
		{gone(insert("t", 300, "x")), "\x03\x01t\x00\xac\x02\x00\x20" + h},
	} {
		if got := RevHash(c.r); got != leaf(c.meta) {
			t.Errorf("RevHash(%#v) = %x, want %x", c.r, got, leaf(c.meta))
		}
	}
}

// Promise 9.1: unlike metas have unlike digests.
func TestRevHashOfAll(t *testing.T) {
	r := update("t", 1, 1, "x")
	seen := map[string]string{RevHash(r): "as it was"}
	for what, f := range map[string]func(r *api.Rev){
		"Op":      func(r *api.Rev) { r.Op = api.OpDelete },
		"Table":   func(r *api.Rev) { r.Table = "u" },
		"Field":   func(r *api.Rev) { r.Field = "t" },
		"both":    func(r *api.Rev) { r.Table, r.Field = "", "t" },
		"Doc":     func(r *api.Rev) { r.Doc = 2 },
		"Version": func(r *api.Rev) { r.Version = 2 },
		"Hash":    func(r *api.Rev) { r.Hash = leaf("y") },
		"none":    func(r *api.Rev) { r.Hash = "" },
	} {
		h := RevHash(changed(r, f))
		if other, ok := seen[h]; ok {
			t.Errorf("%s has the digest of %s", what, other)
		}
		seen[h] = what
	}
	if RevHash(changed(r, func(r *api.Rev) { r.Body = "another" })) != RevHash(r) || RevHash(gone(r)) != RevHash(r) {
		t.Error("a digest hangs on its body")
	}
}

// Promise 9.1: the tree has the metas as leaves, and its own ways show each of them.
func TestTree(t *testing.T) {
	for _, b := range []api.Block{{}, many(1), many(2), many(3), many(7), many(api.MaxRevs), many(api.MaxRevs + 1), sample()} {
		tree := Tree(b)
		n := len(b.Revs)
		if tree == nil || tree.Len() != n || tree.Root() != plainRoot(plainMetas(b)) {
			t.Fatalf("the tree of %d revisions is another one", n)
		}
		for i, r := range b.Revs {
			way, e := tree.Path(i, n)
			if e != api.OK || merkle.Verify(tree.Root(), RevHash(r), i, n, way) != api.OK {
				t.Errorf("revision %d of %d is not shown", i, n)
			}
		}
	}
	b := many(3)
	first, root := Tree(b), Tree(b).Root()
	first.Add("more")
	if Tree(b).Root() != root {
		t.Error("a tree that was answered is not the caller's own")
	}
}

// Promise 9.1: the header's bytes, and the digest of a byte 2 and them.
func TestHeader(t *testing.T) {
	for _, b := range []api.Block{
		{}, {Seq: 1}, {Tx: 1}, {Prev: digest("p")}, {Prev: "short"}, {Prev: strings.Repeat("long", 50)},
		{Seq: math.MaxUint64, Tx: math.MaxUint64, Prev: digest("p")},
		many(1), many(2), many(api.MaxRevs), many(api.MaxRevs + 1), many(200), sample(),
	} {
		want := plainHead(b) + plainRoot(plainMetas(b))
		if got := Header(b); got != want {
			t.Errorf("Header(%#v) = %x, want %x", b, got, want)
		}
		if got := Hash(b); got != sum("\x02"+want) {
			t.Errorf("Hash(%#v) = %x, want %x", b, got, sum("\x02"+want))
		}
	}
	one := api.Block{Seq: 300, Prev: "ab", Tx: 4, Revs: []api.Rev{table("t")}}
	if got, want := Header(one), "\xac\x02\x02ab\x04\x01"+RevHash(one.Revs[0]); got != want {
		t.Errorf("Header = %x, want %x", got, want)
	}
}

// Promise 9.1: a block's digest hangs on all that it has but bodies.
func TestHashOfAll(t *testing.T) {
	b := sample()
	seen := map[string]string{Hash(b): "as it was"}
	for what, f := range map[string]func(b *api.Block){
		"Seq":      func(b *api.Block) { b.Seq++ },
		"Prev":     func(b *api.Block) { b.Prev = digest("another") },
		"Tx":       func(b *api.Block) { b.Tx++ },
		"fewer":    func(b *api.Block) { b.Revs = b.Revs[:6] },
		"more":     func(b *api.Block) { b.Revs = append(b.Revs, table("t")) },
		"order":    func(b *api.Block) { b.Revs[0], b.Revs[1] = b.Revs[1], b.Revs[0] },
		"revision": func(b *api.Block) { b.Revs[4].Doc++ },
		"body":     func(b *api.Block) { b.Revs[2] = insert("t", 1, "another") },
	} {
		c := clone(b)
		f(&c)
		h := Hash(c)
		if other, ok := seen[h]; ok {
			t.Errorf("%s has the digest of %s", what, other)
		}
		seen[h] = what
	}
}

// Promise 9.1: Follows, and which of several errors is told.
func TestFollows(t *testing.T) {
	long := clone(many(api.MaxRevs + 1))
	bad := many(3)
	bad.Revs[2].Doc = 0
	long.Revs[0].Doc = 0
	first := many(1)
	first.Seq, first.Prev = 0, ""
	most := many(2)
	most.Seq = math.MaxUint64
	for i, c := range []struct {
		b    api.Block
		n    uint64
		prev string
		want api.Errno
	}{
		{first, 0, "", api.OK},
		{many(1), 5, digest("block"), api.OK},
		{many(api.MaxRevs), 5, digest("block"), api.OK},
		{sample(), 300, digest("block"), api.OK},
		{allGone(sample()), 300, digest("block"), api.OK},
		{most, math.MaxUint64, digest("block"), api.OK},
		{many(0), 5, digest("block"), api.ErrLimit},
		{many(api.MaxRevs + 1), 5, digest("block"), api.ErrLimit},
		{long, 5, digest("block"), api.ErrLimit},
		{many(0), 6, "", api.ErrLimit},
		{many(api.MaxRevs + 1), 6, "", api.ErrLimit},
		{bad, 5, digest("block"), api.ErrForm},
		{bad, 6, digest("block"), api.ErrForm},
		{bad, 5, "", api.ErrForm},
		{many(1), 4, digest("block"), api.ErrChain},
		{many(1), 6, digest("block"), api.ErrChain},
		{many(1), 0, digest("block"), api.ErrChain},
		{many(1), 5, digest("another"), api.ErrChain},
		{many(1), 5, "", api.ErrChain},
		{many(1), 5, digest("block") + "\x00", api.ErrChain},
		{many(1), 6, "", api.ErrChain},
		{first, 0, digest("block"), api.ErrChain},
		{first, 1, "", api.ErrChain},
		{api.Block{}, 0, "", api.ErrLimit},
	} {
		if e := Follows(c.b, c.n, c.prev); e != c.want {
			t.Errorf("%d: Follows = %d, want %d", i, e, c.want)
		}
	}
	if api.ErrChain != 90 {
		t.Error("ErrChain is another number")
	}
}

// Promise 9.1: a revision that may not be is found wherever it stands.
func TestFollowsEach(t *testing.T) {
	for i := range api.MaxRevs {
		b := many(api.MaxRevs)
		b.Revs[i].Version = 1
		if e := Follows(b, b.Seq, b.Prev); e != api.ErrForm {
			t.Errorf("revision %d: %d, want ErrForm", i, e)
		}
	}
}

// Promise 9.2: the frame's bytes; bodies are not among them.
func TestFrame(t *testing.T) {
	for _, b := range []api.Block{{}, {Prev: strings.Repeat("long", 50)}, many(1), many(2), many(api.MaxRevs), many(200), sample()} {
		want := plainHead(b) + strings.Join(plainMetas(b), "")
		if got := Frame(b); got != want {
			t.Errorf("Frame(%#v) = %x, want %x", b, got, want)
		}
		if Frame(allGone(b)) != want {
			t.Errorf("Frame(%#v) hangs on bodies", b)
		}
	}
	one := api.Block{Seq: 300, Prev: "ab", Tx: 4, Revs: []api.Rev{table("t"), remove("t", 9, 8)}}
	if got, want := Frame(one), "\xac\x02\x02ab\x04\x02\x01\x01t\x00\x00\x00\x00\x05\x01t\x00\x09\x08\x00"; got != want {
		t.Errorf("Frame = %x, want %x", got, want)
	}
}

// Promise 9.2: frames are read again, with all bodies gone.
func TestRead(t *testing.T) {
	most := many(2)
	most.Seq, most.Tx, most.Revs[0].Doc = math.MaxUint64, math.MaxUint64, math.MaxUint64
	first := many(3)
	first.Seq, first.Prev = 0, ""
	named := many(1)
	named.Revs = append(named.Revs, index(strings.Repeat("t", api.MaxName), strings.Repeat("f", api.MaxName)))
	short := many(1)
	short.Prev = "less than 32 bytes"
	for _, b := range []api.Block{many(0), many(1), many(2), many(api.MaxRevs), sample(), most, first, named, short} {
		got, e := Read(Frame(b))
		if e != api.OK || !same(got, allGone(b)) {
			t.Errorf("Read(Frame(%#v)) = %#v, %d", b, got, e)
		}
		if Hash(got) != Hash(b) || Frame(got) != Frame(b) {
			t.Errorf("the block %#v that was read has another digest, or frame", b)
		}
	}
}

// Promise 9.2: a frame that is cut anywhere ends too early; one with bytes behind it goes on too long.
func TestReadCut(t *testing.T) {
	for _, b := range []api.Block{many(0), many(1), sample(), many(api.MaxRevs)} {
		s := Frame(b)
		for n := range len(s) {
			if got, e := Read(s[:n]); e != api.ErrShort || !isZero(got) {
				t.Errorf("the first %d of %d bytes: %#v, %d, want ErrShort", n, len(s), got, e)
			}
		}
		for _, more := range []string{"\x00", "x", s, plainMeta(table("t"))} {
			if got, e := Read(s + more); e != api.ErrLong || !isZero(got) {
				t.Errorf("%q behind it: %#v, %d, want ErrLong", more, got, e)
			}
		}
	}
}

// Promise 9.2: the reader's first error, ErrLong, Check's.
func TestReadWrong(t *testing.T) {
	name := strings.Repeat("n", api.MaxName+1)
	long := strings.Repeat("p", api.HashBytes+1)
	doc := func(meta string) string { return "\x00\x00\x00\x01" + meta }
	overlong := strings.Repeat("\x80", 9) + "\x02"
	for i, c := range []struct {
		s    string
		want api.Errno
	}{
		{"", api.ErrShort},
		{"\x80\x00", api.ErrForm},
		{overlong, api.ErrForm},
		{"\x80", api.ErrShort},
		{"\x00" + text(long) + "\x00\x00", api.ErrLimit},
		{"\x00\x21", api.ErrLimit},
		{"\x00\x20", api.ErrShort},
		{"\x00\xa0\x00", api.ErrForm},
		{"\x00\x00\x80\x00", api.ErrForm},
		{"\x00\x00\x00" + num(api.MaxRevs+1), api.ErrLimit},
		{"\x00\x00\x00" + num(math.MaxUint64), api.ErrLimit},
		{"\x00\x00\x00" + num(api.MaxRevs), api.ErrShort},
		{Frame(many(api.MaxRevs + 1)), api.ErrLimit},
		{"\x00\x00\x00\x80\x00", api.ErrForm},
		{doc("\x01" + text(name)), api.ErrLimit},
		{doc("\x01\x01t" + text(name)), api.ErrLimit},
		{doc("\x01\x01t\x00\x80\x00\x00\x00"), api.ErrForm},
		{doc("\x01\x01t\x00\x00" + overlong + "\x00"), api.ErrForm},
		{doc("\x03\x01t\x00\x01\x00" + text(long)), api.ErrLimit},
		// The reader's error comes ahead of what may not be ahead of it.
		{"\x00\x00\x00\x02" + plainMeta(api.Rev{Op: 9}) + "\x01" + text(name), api.ErrLimit},
		{"\x00\x00\x00\x02" + plainMeta(api.Rev{Op: 9}), api.ErrShort},
		{doc(plainMeta(api.Rev{Op: 9})) + "\x00", api.ErrLong},
		{doc(plainMeta(api.Rev{Op: 9, Table: "t"})), api.ErrForm},
	} {
		if got, e := Read(c.s); e != c.want || !isZero(got) {
			t.Errorf("%d: Read(%x) = %#v, %d, want %d", i, c.s, got, e, c.want)
		}
	}
}

// Promise 9.2: Read refuses a revision that may not be, wherever it stands.
func TestReadChecks(t *testing.T) {
	for _, r := range []api.Rev{
		{}, {Table: "t"}, {Op: 6, Table: "t"}, {Op: 255, Table: "t"},
		table(""), table("9"), index("t", ""), index("t", "a b"), remove("t", 0, 1), remove("t", 1, 0),
		insert("t", 0, "x"), update("t", 1, 0, "x"),
		changed(insert("t", 1, "x"), func(r *api.Rev) { r.Version = 1 }),
		changed(insert("t", 1, "x"), func(r *api.Rev) { r.Field = "f" }),
		changed(insert("t", 1, "x"), func(r *api.Rev) { r.Hash = "" }),
		changed(insert("t", 1, "x"), func(r *api.Rev) { r.Hash = r.Hash[1:] }),
		changed(table("t"), func(r *api.Rev) { r.Hash = leaf("") }),
		changed(remove("t", 1, 1), func(r *api.Rev) { r.Hash = leaf("") }),
		changed(table("t"), func(r *api.Rev) { r.Field = "f" }),
		changed(table("t"), func(r *api.Rev) { r.Doc = 1 }),
		changed(index("t", "f"), func(r *api.Rev) { r.Version = 1 }),
	} {
		for i := range 3 {
			b := many(3)
			b.Revs[i] = r
			if got, e := Read(Frame(b)); e != api.ErrForm || !isZero(got) {
				t.Errorf("%#v at %d: %#v, %d, want ErrForm", r, i, got, e)
			}
		}
	}
}

// Promise 9.2: of bytes that are read as a block the same come, when they are put; whatever the bytes are, nothing panics.
func TestReadAny(t *testing.T) {
	rnd := rand.New(rand.NewSource(9))
	whole := Frame(sample())
	read := 0
	for range 40000 {
		s := []byte(whole)
		for range 1 + rnd.Intn(3) {
			s[rnd.Intn(len(s))] = byte(rnd.Intn(256))
		}
		b, e := Read(string(s))
		if e != api.OK {
			if !isZero(b) {
				t.Fatalf("Read(%x) = %#v with %d", s, b, e)
			}
			continue
		}
		read++
		if Frame(b) != string(s) || Follows(b, b.Seq, b.Prev) != api.OK {
			t.Fatalf("Read(%x) = %#v", s, b)
		}
	}
	if read == 0 {
		t.Error("none was read")
	}
}

// Promise 9.2: With lays a body where it is gone, and where it is there.
func TestWith(t *testing.T) {
	b := allGone(sample())
	was := clone(b)
	c, e := With(b, 3, "two")
	want := clone(b)
	want.Revs[3] = update("t", 1, 1, "two")
	if e != api.OK || !same(c, want) {
		t.Errorf("With = %#v, %d, want %#v", c, e, want)
	}
	again, e := With(c, 3, "two")
	if e != api.OK || !same(again, want) {
		t.Errorf("With of one that is there = %#v, %d, want %#v", again, e, want)
	}
	empty, e := With(b, 5, "")
	if e != api.OK || empty.Revs[5] != insert("t", 2, "") {
		t.Errorf("With of an empty body = %#v, %d", empty, e)
	}
	if !same(b, was) || !same(c, want) {
		t.Error("what was handed in was changed")
	}
	full := strings.Repeat("b", api.MaxValue)
	most := allGone(api.Block{Revs: []api.Rev{insert("t", 1, full)}})
	if c, e := With(most, 0, full); e != api.OK || c.Revs[0] != insert("t", 1, full) {
		t.Errorf("With of MaxValue bytes: %d", e)
	}
}

// Promise 9.2: With puts all bodies back, one behind the other.
func TestWithAll(t *testing.T) {
	b := many(api.MaxRevs)
	c, e := Read(Frame(b))
	for i, r := range b.Revs {
		if e != api.OK {
			t.Fatal(e)
		}
		c, e = With(c, i, r.Body)
	}
	if e != api.OK || !same(c, b) {
		t.Errorf("With of all bodies: %#v, %d", c, e)
	}
}

// Promise 9.2: With refuses, and answers the block as it was.
func TestWithWrong(t *testing.T) {
	over := strings.Repeat("b", api.MaxValue+1)
	b := sample()
	b.Revs = append(b.Revs, gone(insert("t", 3, over)),
		changed(gone(insert("t", 4, "x")), func(r *api.Rev) { r.Op = 9 }),
		changed(table("t"), func(r *api.Rev) { r.Hash, r.Gone = leaf("x"), true }))
	was := clone(b)
	for _, c := range []struct {
		i    int
		body string
	}{
		{-1, "one"}, {len(b.Revs), "one"}, {math.MaxInt, "one"}, {math.MinInt, "one"},
		{0, ""}, {1, ""}, {4, ""}, {0, "x"},
		{2, "two"}, {2, ""}, {2, "one "}, {2, leaf("one")}, {6, "two"}, {6, ""}, {5, "\x00"},
		{7, over}, {8, "x"}, {9, "x"},
	} {
		got, e := With(b, c.i, c.body)
		if e != api.ErrArg || !same(got, was) {
			t.Errorf("With(%d, %q) = %#v, %d, want ErrArg", c.i, c.body, got, e)
		}
	}
	if got, e := With(api.Block{}, 0, ""); e != api.ErrArg || !isZero(got) {
		t.Errorf("With of no block = %#v, %d", got, e)
	}
	if !same(b, was) {
		t.Error("what was handed in was changed")
	}
}

// Promise 9.2: Without takes a body out; what is handed in stays.
func TestWithout(t *testing.T) {
	b := sample()
	was := clone(b)
	for _, i := range []int{2, 3, 5} {
		want := clone(b)
		want.Revs[i] = gone(want.Revs[i])
		c, e := Without(b, i)
		if e != api.OK || !same(c, want) {
			t.Errorf("Without(%d) = %#v, %d, want %#v", i, c, e, want)
		}
		if again, e := Without(c, i); e != api.ErrArg || !same(again, want) {
			t.Errorf("Without(%d) twice = %#v, %d, want ErrArg", i, again, e)
		}
		back, e := With(c, i, b.Revs[i].Body)
		if e != api.OK || !same(back, was) {
			t.Errorf("With(Without(%d)) = %#v, %d", i, back, e)
		}
	}
	for _, i := range []int{-1, 0, 1, 4, 6, 7, math.MaxInt, math.MinInt} {
		if got, e := Without(b, i); e != api.ErrArg || !same(got, was) {
			t.Errorf("Without(%d) = %#v, %d, want ErrArg", i, got, e)
		}
	}
	odd := clone(b)
	odd.Revs[0].Op, odd.Revs[0].Body = 9, "x"
	if got, e := Without(odd, 0); e != api.ErrArg || !same(got, odd) {
		t.Errorf("Without of no operation = %#v, %d, want ErrArg", got, e)
	}
	if got, e := Without(api.Block{}, 0); e != api.ErrArg || !isZero(got) {
		t.Errorf("Without of no block = %#v, %d", got, e)
	}
	if !same(b, was) {
		t.Error("what was handed in was changed")
	}
}

// Promise 9.3, T4 and the chapter's example: digests, frames and what shows revisions do not hang on whether bodies are gone.
func TestGoneChangesNoDigest(t *testing.T) {
	for _, b := range []api.Block{sample(), many(1), many(api.MaxRevs)} {
		c := b
		for i, r := range b.Revs {
			out, e := Without(c, i)
			has := (r.Op == api.OpInsert || r.Op == api.OpUpdate) && !r.Gone
			if has != (e == api.OK) {
				t.Fatalf("Without(%d) = %d", i, e)
			}
			c = out
			if Hash(c) != Hash(b) || Header(c) != Header(b) || Frame(c) != Frame(b) || RevHash(c.Revs[i]) != RevHash(r) || Tree(c).Root() != Tree(b).Root() {
				t.Fatalf("without %d: another digest", i)
			}
			if c.Revs[i].Body != "" {
				t.Fatalf("without %d: its body is there", i)
			}
		}
		if !same(c, allGone(b)) || Follows(c, c.Seq, c.Prev) != Follows(b, b.Seq, b.Prev) {
			t.Errorf("without all: %#v", c)
		}
	}
}

// T3: unlike blocks of one digest would be a collision: a block's text is none of a leaf or a node.
func TestDigestsApart(t *testing.T) {
	b := many(2)
	if Hash(b) == leaf(Header(b)) || Hash(b) == sum("\x01"+Header(b)) || Hash(b) == sum(Header(b)) {
		t.Error("a block's digest is that of another kind")
	}
	if hash.Collides(api.Pair{A: "\x02" + Header(b), B: "\x02" + Header(many(3))}) {
		t.Error("two blocks collide")
	}
}

// R2: the answers share nothing with what was handed in, with an error too.
func TestOwn(t *testing.T) {
	spoil := func(b api.Block) {
		for i := range b.Revs {
			b.Revs[i] = api.Rev{Op: 99, Table: "spoilt"}
		}
	}
	b := sample()
	b.Revs = append(make([]api.Rev, 0, 20), b.Revs...)
	was := clone(b)
	calls := map[string]func() (api.Block, api.Errno){
		"With":         func() (api.Block, api.Errno) { return With(b, 2, "one") },
		"With, wrong":  func() (api.Block, api.Errno) { return With(b, 2, "two") },
		"Without":      func() (api.Block, api.Errno) { return Without(b, 2) },
		"Without none": func() (api.Block, api.Errno) { return Without(b, 0) },
	}
	for what, call := range calls {
		got, _ := call()
		spoil(got)
		_ = append(got.Revs, api.Rev{Op: 98})
		if !same(b, was) || b.Revs[:8][7] != (api.Rev{}) {
			t.Errorf("%s: what it answers is not the caller's own", what)
		}
	}
	s := Frame(b)
	one, _ := Read(s)
	spoil(one)
	if two, e := Read(s); e != api.OK || !same(two, allGone(b)) {
		t.Error("Read: what it answers is not the caller's own")
	}
	kept, _ := With(allGone(b), 2, "one")
	spoil(b)
	if kept.Revs[2] != insert("t", 1, "one") {
		t.Error("an answer hangs on what was handed in")
	}
}

// R3: no list and an empty one are the same.
func TestEmpty(t *testing.T) {
	none, empty := api.Block{Seq: 1, Prev: "p"}, api.Block{Seq: 1, Prev: "p", Revs: []api.Rev{}}
	if Header(none) != Header(empty) || Hash(none) != Hash(empty) || Frame(none) != Frame(empty) || Tree(none).Root() != Tree(empty).Root() || Follows(none, 1, "p") != Follows(empty, 1, "p") {
		t.Error("they answer otherwise")
	}
}

// R1, R4, R6: at any revisions the calls end, and answer the same twice.
func TestAny(t *testing.T) {
	rnd := rand.New(rand.NewSource(99))
	pick := func(l ...string) string { return l[rnd.Intn(len(l))] }
	number := func() uint64 { return []uint64{0, 0, 1, 2, math.MaxUint64}[rnd.Intn(5)] }
	may, not := 0, 0
	for range 20000 {
		r := api.Rev{Op: rnd.Intn(8) - 1, Table: pick("t", "t", "t", "", "9"), Field: pick("", "", "", "f", "-"), Doc: number(), Version: number(), Body: pick("", "x", "y"), Gone: rnd.Intn(3) == 0}
		r.Hash = pick("", leaf(r.Body), leaf("x"), "short")
		want := plainCheck(r)
		if e := Check(r); e != want || Check(r) != want {
			t.Fatalf("Check(%#v) = %d, want %d", r, e, want)
		}
		b := api.Block{Seq: number(), Prev: pick("", digest("p")), Tx: number(), Revs: []api.Rev{table("t"), r}}
		got, e := Read(Frame(b))
		if want == api.OK {
			may++
			if e != api.OK || !same(got, allGone(b)) || Hash(got) != Hash(b) || Hash(b) != Hash(b) {
				t.Fatalf("Read(Frame(%#v)) = %#v, %d", b, got, e)
			}
		} else {
			not++
		}
		if Follows(b, b.Seq, b.Prev) != want {
			t.Fatalf("Follows(%#v) is not %d", b, want)
		}
	}
	if may < 100 || not < 100 {
		t.Errorf("%d may be, %d not: too few", may, not)
	}
}

// plainCheck is Check for the revisions of TestAny, said otherwise: those of each operation are built, and held against it.
func plainCheck(r api.Rev) api.Errno {
	var like api.Rev
	switch {
	case r.Table != "t":
		return api.ErrForm
	case r.Op == api.OpTable:
		like = table("t")
	case r.Op == api.OpIndex && r.Field == "f":
		like = index("t", "f")
	case r.Op == api.OpInsert && r.Doc > 0:
		like = insert("t", r.Doc, r.Body)
	case r.Op == api.OpUpdate && r.Doc > 0 && r.Version > 0:
		like = update("t", r.Doc, r.Version, r.Body)
	case r.Op == api.OpDelete && r.Doc > 0 && r.Version > 0:
		like = remove("t", r.Doc, r.Version)
	default:
		return api.ErrForm
	}
	if r.Gone && like.Hash != "" && len(r.Hash) == api.HashBytes {
		like = gone(like)
		like.Hash = r.Hash
	}
	if r != like {
		return api.ErrForm
	}
	return api.OK
}

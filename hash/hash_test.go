package hash

import (
	"crypto/sha256"
	"encoding"
	"encoding/binary"
	"encoding/hex"
	"strings"
	"testing"

	"parchment/api"
)

// pattern is n bytes in which all values come and no two blocks are alike.
func pattern(n int) string {
	b := make([]byte, n)
	x := uint32(1)
	for i := range b {
		x = x*1664525 + 1013904223
		b[i] = byte(x >> 24)
	}
	return string(b)
}

func library(s string) string {
	d := sha256.Sum256([]byte(s))
	return string(d[:])
}

// libraryMix has the library mix a block into words of any kind, by the state that it lets itself be given.
func libraryMix(t *testing.T, h api.Words, s string) api.Words {
	t.Helper()
	state := []byte("sha\x03")
	for _, w := range h {
		state = binary.BigEndian.AppendUint32(state, w)
	}
	state = append(state, make([]byte, 64+8)...)
	d := sha256.New()
	if err := d.(encoding.BinaryUnmarshaler).UnmarshalBinary(state); err != nil {
		t.Fatal(err)
	}
	d.Write([]byte(s))
	state, err := d.(encoding.BinaryMarshaler).MarshalBinary()
	if err != nil {
		t.Fatal(err)
	}
	var out api.Words
	for i := range out {
		out[i] = binary.BigEndian.Uint32(state[4+4*i:])
	}
	return out
}

// Promise 1.1: Start.
func TestStart(t *testing.T) {
	want := api.Words{0x6a09e667, 0xbb67ae85, 0x3c6ef372, 0xa54ff53a, 0x510e527f, 0x9b05688c, 0x1f83d9ab, 0x5be0cd19}
	h := Start()
	if h != want {
		t.Errorf("Start() = %x, want %x", h, want)
	}
	h[0] = 0
	if Start() != want {
		t.Error("Start() hangs on what was done to an answer")
	}
}

// Promise 1.1: Mix of a block, into words of any kind.
func TestMixBlock(t *testing.T) {
	words := []api.Words{
		Start(),
		{},
		{1, 2, 3, 4, 5, 6, 7, 8},
		{1<<32 - 1, 1<<32 - 1, 1<<32 - 1, 1<<32 - 1, 1<<32 - 1, 1<<32 - 1, 1<<32 - 1, 1<<32 - 1},
		{0x80000000, 0, 0x7fffffff, 0xdeadbeef, 0x01234567, 0x89abcdef, 0xfedcba98, 0x76543210},
	}
	blocks := []string{
		strings.Repeat("\x00", 64),
		strings.Repeat("\xff", 64),
		strings.Repeat("a", 64),
		pattern(64),
		pattern(128)[64:],
	}
	for _, h := range words {
		for _, s := range blocks {
			if got, want := Mix(h, s), libraryMix(t, h, s); got != want {
				t.Errorf("Mix(%x, %x) = %x, want %x", h, s, got, want)
			}
		}
	}
}

// Promise 1.1: the only block of abc, with what stands behind all bytes.
func TestMixOfABC(t *testing.T) {
	s := "abc\x80" + strings.Repeat("\x00", 64-3-1-1) + "\x18"
	want := api.Words{0xba7816bf, 0x8f01cfea, 0x414140de, 0x5dae2223, 0xb00361a3, 0x96177a9c, 0xb410ff61, 0xf20015ad}
	if got := Mix(Start(), s); got != want {
		t.Errorf("Mix = %x, want %x", got, want)
	}
}

// Promise 1.1: Mix with a text that has not 64 bytes.
func TestMixOtherLength(t *testing.T) {
	for _, h := range []api.Words{Start(), {}, {8, 7, 6, 5, 4, 3, 2, 1}} {
		for _, n := range []int{0, 1, 32, 55, 56, 63, 65, 127, 128, 192, 1 << 16} {
			if got := Mix(h, pattern(n)); got != h {
				t.Errorf("Mix(%x, %d bytes) = %x, want the words as they were", h, n, got)
			}
		}
	}
}

// Promise 1.1: Sum of texts whose digests are published.
func TestSumPublished(t *testing.T) {
	for _, c := range []struct{ name, s, want string }{
		{"nothing", "", "e3b0c44298fc1c149afbf4c8996fb92427ae41e4649b934ca495991b7852b855"},
		{"abc", "abc", "ba7816bf8f01cfea414140de5dae2223b00361a396177a9cb410ff61f20015ad"},
		{"56 bytes", "abcdbcdecdefdefgefghfghighijhijkijkljklmklmnlmnomnopnopq", "248d6a61d20638b8e5c026930c3e6039a33ce45964ff2167f6ecedd419db06c1"},
		{"112 bytes", "abcdefghbcdefghicdefghijdefghijkefghijklfghijklmghijklmnhijklmnoijklmnopjklmnopqklmnopqrlmnopqrsmnopqrstnopqrstu", "cf5b16a778af8380036ce59e7b0492370b249b11e8f07a51afac45037afee9d1"},
		{"a million", strings.Repeat("a", 1000000), "cdc76e5c9914fb9281a1c7e284d73e67f1809a48a497200e046d39ccc7112cd0"},
	} {
		if got := hex.EncodeToString([]byte(Sum(c.s))); got != c.want {
			t.Errorf("Sum of %s = %s, want %s", c.name, got, c.want)
		}
	}
}

// Promise 1.1: Sum at all lengths over some blocks: at 56, 120, .. what stands behind all bytes needs one block more.
func TestSumLengths(t *testing.T) {
	all := pattern(5 * 64)
	for n := range len(all) + 1 {
		s := all[:n]
		got := Sum(s)
		if got != library(s) {
			t.Errorf("Sum of %d bytes = %x, want %x", n, got, library(s))
		}
		if len(got) != api.HashBytes {
			t.Errorf("Sum of %d bytes has %d bytes", n, len(got))
		}
	}
}

// Promise 1.1: how many bits there are takes more than one, two and three of its bytes.
func TestSumLong(t *testing.T) {
	for _, n := range []int{1<<13 - 1, 1 << 13, 1<<16 + 55, 1<<16 + 56, 1<<21 - 1, 1<<21 + 3} {
		s := pattern(n)
		if got := Sum(s); got != library(s) {
			t.Errorf("Sum of %d bytes = %x, want %x", n, got, library(s))
		}
	}
}

// Promise 1.1: a digest is Start's words, all blocks mixed in.
func TestSumIsMixes(t *testing.T) {
	s := pattern(128)
	end := "\x80" + strings.Repeat("\x00", 61) + "\x04\x00"
	h := Mix(Mix(Mix(Start(), s[:64]), s[64:]), end)
	var b []byte
	for _, w := range h {
		b = binary.BigEndian.AppendUint32(b, w)
	}
	if got := Sum(s); got != string(b) {
		t.Errorf("Sum = %x, want %x", got, b)
	}
}

// Promise 1.1: Leaf, at the lengths at which its mark makes it a block longer, too.
func TestLeaf(t *testing.T) {
	for _, n := range []int{0, 1, 32, 54, 55, 56, 62, 63, 64, 65, 118, 119, 120, 1024} {
		s := pattern(n)
		if got, want := Leaf(s), library("\x00"+s); got != want {
			t.Errorf("Leaf of %d bytes = %x, want %x", n, got, want)
		}
	}
}

// Promise 1.1: Node, of digests, and of texts that are none.
func TestNode(t *testing.T) {
	a, b := Sum("a"), Leaf("b")
	for _, c := range [][2]string{{a, b}, {b, a}, {a, a}, {"", ""}, {a, ""}, {"", b}, {"x", "yz"}, {pattern(100), pattern(33)}} {
		if got, want := Node(c[0], c[1]), library("\x01"+c[0]+c[1]); got != want {
			t.Errorf("Node(%x, %x) = %x, want %x", c[0], c[1], got, want)
		}
	}
	if Node(a, b) == Node(b, a) {
		t.Error("Node does not tell which digest is first")
	}
}

// Promise 1.1: no leaf is taken for a node, and neither for bare bytes.
func TestLeafAgainstNode(t *testing.T) {
	a, b := Leaf("a"), Leaf("b")
	seen := []string{Leaf(a + b), Node(a, b), Sum(a + b)}
	if seen[0] == seen[1] || seen[1] == seen[2] || seen[0] == seen[2] {
		t.Errorf("not all unlike: %x", seen)
	}
	if Leaf("") == Sum("") || Node("", "") == Sum("") || Leaf("") == Node("", "") {
		t.Error("of nothing: not all unlike")
	}
}

// Promise 1.1: pairs that are no collision. (None is known that is one.)
func TestCollides(t *testing.T) {
	long := pattern(1000)
	for _, p := range []api.Pair{
		{},
		{A: "a", B: "a"},
		{A: "a", B: "b"},
		{A: "", B: "\x00"},
		{A: "abc", B: ""},
		{A: "", B: "abc"},
		{A: "abc", B: "abc\x80"},
		{A: "a", B: Sum("a")},
		{A: long, B: long},
		{A: long, B: long[:999]},
		{A: long, B: long[:999] + "\x00"},
		{A: "\x00a", B: "a"},
		{A: "abc", B: "abc\x80" + strings.Repeat("\x00", 59) + "\x18"},
	} {
		if Collides(p) {
			t.Errorf("Collides(%x, %x)", p.A, p.B)
		}
	}
}

// Promise 1.1 with R4: the same calls answer the same, whatever came between.
func TestSameAgain(t *testing.T) {
	first := Sum("abc") + Leaf("abc") + Node("a", "b")
	Sum(pattern(777))
	Mix(api.Words{}, pattern(64))
	if again := Sum("abc") + Leaf("abc") + Node("a", "b"); again != first {
		t.Errorf("%x, then %x", first, again)
	}
}

func BenchmarkSum(b *testing.B) {
	s := pattern(1 << 16)
	b.SetBytes(int64(len(s)))
	for range b.N {
		Sum(s)
	}
}

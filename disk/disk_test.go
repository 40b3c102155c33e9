package disk

import (
	"math"
	"math/rand"
	"slices"
	"sort"
	"strings"
	"testing"

	"parchment/api"
)

// made is a disk of so many sectors.
func made(t *testing.T, sectors int) *Disk {
	t.Helper()
	d, e := New(sectors)
	if e != api.OK || d == nil {
		t.Fatalf("New(%d): %v, %v", sectors, d, e)
	}
	return d
}

// text is n bytes, none of which is 0, that tell their places.
func text(n int) string {
	b := make([]byte, n)
	for i := range b {
		b[i] = byte(1 + (i*7+i/64)%255)
	}
	return string(b)
}

func noughts(n int) string { return string(make([]byte, n)) }

func put(t *testing.T, d *Disk, n int, s string) {
	t.Helper()
	want := 0
	if old, e := d.Read(n); e == api.OK {
		want = len(old)
	}
	if at, e := d.Append(n, s); at != want || e != api.OK {
		t.Fatalf("Append(%d, %d bytes): %d, %v; want %d", n, len(s), at, e, want)
	}
}

func ok(t *testing.T, what string, e api.Errno) {
	t.Helper()
	if e != api.OK {
		t.Fatalf("%s: %v", what, e)
	}
}

func told(t *testing.T, what string, got, want api.Errno) {
	t.Helper()
	if got != want {
		t.Errorf("%s: %v, want %v", what, got, want)
	}
}

func has(t *testing.T, d *Disk, n int, want string) {
	t.Helper()
	s, e := d.Read(n)
	if s != want || e != api.OK {
		t.Errorf("file %d: %q, %v; want %q", n, s, e, want)
	}
}

func counts(t *testing.T, d *Disk, used, loose, changes int) {
	t.Helper()
	if d.Used() != used || d.Loose() != loose || d.Changes() != changes {
		t.Errorf("used %d, loose %d, changes %d; want %d, %d, %d", d.Used(), d.Loose(), d.Changes(), used, loose, changes)
	}
}

// 5.1: New.
func TestNew(t *testing.T) {
	for _, n := range []int{-1, math.MinInt} {
		if d, e := New(n); d != nil || e != api.ErrArg {
			t.Errorf("New(%d): %v, %v", n, d, e)
		}
	}
	d := made(t, 7)
	counts(t, d, 0, 0, 0)
	if d.Dead() || d.Up() || len(d.Files()) != 0 {
		t.Error("a new disk has power, and no files")
	}
	made(t, math.MaxInt)
}

// 5.1: without sectors files may be, but have no bytes.
func TestNoSectors(t *testing.T) {
	d := made(t, 0)
	at, e := d.Append(3, "x")
	if at != 0 || e != api.ErrFull {
		t.Error(at, e)
	}
	if len(d.Files()) != 0 {
		t.Error("a file came by an append that was refused")
	}
	put(t, d, 3, "")
	has(t, d, 3, "")
	told(t, "x behind an empty file", second(d.Append(3, "x")), api.ErrFull)
	counts(t, d, 0, 0, 1)
}

func second[T any](_ T, e api.Errno) api.Errno { return e }

// 5.1: bytes stand behind the file, and Append tells where.
func TestAppend(t *testing.T) {
	d := made(t, 10)
	put(t, d, 5, "abc")
	put(t, d, 5, "def")
	put(t, d, 0, text(100))
	put(t, d, 5, text(64))
	has(t, d, 5, "abcdef"+text(64))
	has(t, d, 0, text(100))
	counts(t, d, 4, 4, 4)
	if f := d.Files(); !slices.Equal(f, []int{0, 5}) {
		t.Error(f)
	}
	put(t, d, math.MaxInt, "z")
	has(t, d, math.MaxInt, "z")
}

// 5.1: an append that just fits, and one that does not; sectors are counted by files.
func TestAppendFull(t *testing.T) {
	d := made(t, 3)
	put(t, d, 1, text(65))
	at, e := d.Append(1, text(128))
	if at != 0 || e != api.ErrFull {
		t.Error(at, e)
	}
	has(t, d, 1, text(65))
	counts(t, d, 2, 2, 1)
	put(t, d, 1, text(63))
	put(t, d, 2, text(64))
	counts(t, d, 3, 3, 3)
	told(t, "one byte more", second(d.Append(2, "x")), api.ErrFull)
	told(t, "one byte more, in a new file", second(d.Append(9, "x")), api.ErrFull)
	if f := d.Files(); !slices.Equal(f, []int{1, 2}) {
		t.Error(f)
	}
	// Bytes that need no other sector fit in, though the disk is full.
	ok(t, "Cut", d.Cut(2, 1))
	put(t, d, 2, text(63))
	counts(t, d, 3, 3, 5)
}

// 5.1: no bytes are appended, even to a disk that is full: the file comes, nothing is loose, it is a change.
func TestAppendNothing(t *testing.T) {
	d := made(t, 1)
	put(t, d, 1, text(64))
	ok(t, "Sync", d.Sync(1))
	put(t, d, 1, "")
	put(t, d, 2, "")
	d.Room(0)
	put(t, d, 1, "")
	put(t, d, 4, "")
	counts(t, d, 1, 0, 6)
	if f := d.Files(); !slices.Equal(f, []int{1, 2, 4}) {
		t.Error(f)
	}
	has(t, d, 1, text(64))
	has(t, d, 2, "")
	d = made(t, 1)
	put(t, d, 1, text(10))
	ok(t, "Sync", d.Sync(1))
	put(t, d, 1, "")
	counts(t, d, 1, 0, 3)
}

// 5.1: Write, over bytes that are there.
func TestWrite(t *testing.T) {
	d := made(t, 10)
	put(t, d, 1, text(200))
	ok(t, "Sync", d.Sync(1))
	ok(t, "Write", d.Write(1, 60, "12345678"))
	want := text(200)[:60] + "12345678" + text(200)[68:]
	has(t, d, 1, want)
	counts(t, d, 4, 2, 3)
	ok(t, "Write at the front", d.Write(1, 0, "A"))
	ok(t, "Write up to the end", d.Write(1, 198, "yz"))
	has(t, d, 1, "A"+want[1:198]+"yz")
	counts(t, d, 4, 3, 5)
	ok(t, "Write of all", d.Write(1, 0, text(200)))
	has(t, d, 1, text(200))
	counts(t, d, 4, 4, 6)
}

// 5.1: Write of no bytes, and what it refuses.
func TestWriteEdges(t *testing.T) {
	d := made(t, 10)
	put(t, d, 1, text(100))
	ok(t, "Sync", d.Sync(1))
	for _, at := range []int{0, 50, 64, 100} {
		ok(t, "Write of nothing", d.Write(1, at, ""))
	}
	counts(t, d, 2, 0, 6)
	for _, c := range []struct {
		at int
		s  string
	}{{100, "x"}, {101, ""}, {99, "xy"}, {-1, ""}, {-1, "x"}, {-5, text(200)}, {0, text(101)}, {math.MaxInt, "x"}, {math.MaxInt, ""}, {math.MinInt, "x"}} {
		told(t, "Write beside the file", d.Write(1, c.at, c.s), api.ErrArg)
	}
	for _, n := range []int{0, 2, -1, math.MinInt} {
		told(t, "Write to no file", d.Write(n, -1, "x"), api.ErrNone)
	}
	counts(t, d, 2, 0, 6)
	has(t, d, 1, text(100))
}

// 5.1: Cut makes all of it sure, and gives its sectors back.
func TestCut(t *testing.T) {
	d := made(t, 10)
	put(t, d, 1, text(200))
	for _, long := range []int{-1, 201, math.MinInt, math.MaxInt} {
		told(t, "Cut", d.Cut(1, long), api.ErrArg)
	}
	counts(t, d, 4, 4, 1)
	ok(t, "Cut to the whole length", d.Cut(1, 200))
	counts(t, d, 4, 0, 2)
	ok(t, "Write", d.Write(1, 0, "AB"))
	ok(t, "Cut", d.Cut(1, 129))
	counts(t, d, 3, 0, 4)
	ok(t, "Cut", d.Cut(1, 128))
	counts(t, d, 2, 0, 5)
	d.Crash(0, 0)
	d.Up()
	has(t, d, 1, "AB"+text(200)[2:128])
	ok(t, "Cut to nothing", d.Cut(1, 0))
	has(t, d, 1, "")
	counts(t, d, 0, 0, 6)
	ok(t, "Cut of nothing", d.Cut(1, 0))
	told(t, "Cut", d.Cut(1, 1), api.ErrArg)
	for _, n := range []int{0, 2, -1} {
		told(t, "Cut of no file", d.Cut(n, -1), api.ErrNone)
	}
	put(t, d, 1, "x")
	d.Crash(0, 0)
	d.Up()
	has(t, d, 1, "")
}

// 5.1: Remove is sure, loose or not, and gives its sectors back; a file of that number may come again.
func TestRemove(t *testing.T) {
	d := made(t, 4)
	put(t, d, 1, text(100))
	ok(t, "Sync", d.Sync(1))
	put(t, d, 2, text(100))
	ok(t, "Remove", d.Remove(1))
	ok(t, "Remove", d.Remove(2))
	counts(t, d, 0, 0, 5)
	for _, n := range []int{1, 2, 0, -1} {
		told(t, "Remove of no file", d.Remove(n), api.ErrNone)
		if s, e := d.Read(n); s != "" || e != api.ErrNone {
			t.Error(s, e)
		}
	}
	put(t, d, 1, text(256))
	d.Crash(0, 0)
	d.Up()
	has(t, d, 1, "")
	if f := d.Files(); !slices.Equal(f, []int{1}) {
		t.Error(f)
	}
}

// 5.1: what is synced stays; Sync is of one file alone.
func TestSync(t *testing.T) {
	d := made(t, 10)
	put(t, d, 1, text(100))
	put(t, d, 2, text(50))
	ok(t, "Sync", d.Sync(1))
	counts(t, d, 3, 1, 3)
	ok(t, "Sync", d.Sync(1))
	for _, n := range []int{0, 3, -1} {
		told(t, "Sync of no file", d.Sync(n), api.ErrNone)
	}
	counts(t, d, 3, 1, 4)
	d.Crash(0, 0)
	d.Up()
	has(t, d, 1, text(100))
	has(t, d, 2, "")
	counts(t, d, 2, 0, 4)
}

// 5.1: Files, rising; they are the caller's own.
func TestFiles(t *testing.T) {
	d := made(t, 100)
	want := []int{0, 1, 2, 7, 9, 30, 31, 32, 1000}
	for _, n := range []int{31, 9, 1000, 0, 7, 30, 2, 32, 1} {
		put(t, d, n, "x")
	}
	for range 20 {
		f := d.Files()
		if !slices.Equal(f, want) {
			t.Fatal(f)
		}
		f[0], f[5] = 99, 99
	}
}

// Example 1: the third sector is there, two of noughts ahead of it.
func TestExample(t *testing.T) {
	d := made(t, 10)
	put(t, d, 1, text(200))
	counts(t, d, 4, 4, 1)
	d.Crash(4, 0)
	if !d.Dead() {
		t.Error("it has power yet")
	}
	d.Up()
	has(t, d, 1, noughts(128)+text(200)[128:192])
	counts(t, d, 3, 0, 1)
}

// 5.2: of the first sector that is not kept the first Torn bytes are, of the others none.
func TestTorn(t *testing.T) {
	s := text(200)
	for _, c := range []struct {
		mask uint64
		torn int
		want string
	}{
		{0, math.MinInt, ""}, {0, -1, ""}, {0, 0, ""}, {0, 1, s[:1]}, {0, 63, s[:63]}, {0, 64, s[:64]}, {0, 65, s[:64]}, {0, math.MaxInt, s[:64]},
		{1, -1, s[:64]}, {1, 5, s[:69]}, {1, 300, s[:128]},
		{2, 5, s[:5] + noughts(59) + s[64:128]}, {2, 99, s[:128]},
		{4, 5, s[:5] + noughts(123) + s[128:192]},
		{5, 5, s[:69] + noughts(59) + s[128:192]},
		{7, 5, s[:197]}, {7, 8, s}, {7, 9, s}, {7, 64, s}, {7, math.MaxInt, s}, {7, 0, s[:192]}, {7, -7, s[:192]},
		{8, 0, noughts(192) + s[192:]}, {8, 64, s[:64] + noughts(128) + s[192:]}, {9, 2, s[:66] + noughts(126) + s[192:]},
		{15, 0, s}, {math.MaxUint64, -1, s}, {1 << 63, 0, ""}, {^uint64(15), 3, s[:3]},
	} {
		d := made(t, 10)
		put(t, d, 1, s)
		d.Crash(c.mask, c.torn)
		d.Up()
		has(t, d, 1, c.want)
		counts(t, d, (len(c.want)+63)/64, 0, 1)
		d.Crash(0, 0)
		d.Up()
		has(t, d, 1, c.want)
	}
}

// 5.2: sectors that were written over are what was sure, but for what is kept.
func TestOverSure(t *testing.T) {
	s := text(150)
	n := strings.Repeat("N", 150)
	for _, c := range []struct {
		mask uint64
		torn int
		want string
	}{
		{0, 0, s}, {0, 10, n[:10] + s[10:]}, {0, 99, n[:64] + s[64:]}, {1, 0, n[:64] + s[64:]}, {2, 0, s[:64] + n[:64] + s[128:]},
		{2, 3, n[:3] + s[3:64] + n[:64] + s[128:]}, {3, 3, n[:131] + s[131:]}, {3, 99, n}, {4, 0, s[:128] + n[:22]}, {7, 0, n}, {1 << 62, -1, s},
	} {
		d := made(t, 10)
		put(t, d, 1, s)
		ok(t, "Sync", d.Sync(1))
		ok(t, "Write", d.Write(1, 0, n))
		ok(t, "Write", d.Write(1, 0, n))
		d.Crash(c.mask, c.torn)
		d.Up()
		has(t, d, 1, c.want)
	}
}

// 5.2: a sector that has some sure bytes and some behind them; noughts behind the sure ones.
func TestBehindSure(t *testing.T) {
	s := text(200)
	for _, c := range []struct {
		mask uint64
		torn int
		want string
	}{
		{0, 0, s[:70]}, {0, 3, s[:70]}, {0, 6, s[:70]}, {0, 7, s[:71]}, {0, 64, s[:128]}, {1, 0, s[:128]}, {1, 4, s[:132]},
		{2, 0, s[:70] + noughts(58) + s[128:192]}, {2, 20, s[:84] + noughts(44) + s[128:192]}, {4, 0, s[:70] + noughts(122) + s[192:]}, {7, 0, s},
	} {
		d := made(t, 10)
		put(t, d, 1, s[:70])
		ok(t, "Sync", d.Sync(1))
		put(t, d, 1, s[70:90])
		put(t, d, 1, s[90:])
		counts(t, d, 4, 3, 4)
		d.Crash(c.mask, c.torn)
		d.Up()
		has(t, d, 1, c.want)
	}
}

// 5.2: loose sectors are counted over the files by their numbers, and one of all is torn.
func TestCrashFiles(t *testing.T) {
	for _, c := range []struct {
		mask      uint64
		torn      int
		a, b, end string
	}{
		{0, 5, text(5), "sure", ""}, {3, 5, text(100), "SURE", ""}, {1, 5, text(69), "sure", ""}, {4, 0, "", "SURE", ""}, {7, 2, text(100), "SURE", "12"},
		{3, 2, text(100), "SUre", ""}, {8, 40, text(40), "sure", "123"}, {11, 0, text(100), "sure", "123"},
	} {
		d := made(t, 10)
		put(t, d, 7, "sure")
		ok(t, "Sync", d.Sync(7))
		put(t, d, 9, "123")
		ok(t, "Write", d.Write(7, 0, "SURE"))
		put(t, d, 2, text(100))
		d.Crash(c.mask, c.torn)
		d.Up()
		has(t, d, 2, c.a)
		has(t, d, 7, c.b)
		has(t, d, 9, c.end)
	}
}

// 5.2: bit 63 is that of all loose sectors from the 64th on, here the 24th of the second file.
func TestManyLoose(t *testing.T) {
	a, b := text(40*64), text(30*64)
	for _, c := range []struct {
		mask         uint64
		torn         int
		want1, want2 string
	}{
		{1 << 63, 0, "", noughts(23*64) + b[23*64:]},
		{1 << 63, 9, a[:9], noughts(23*64) + b[23*64:]},
		{1<<63 - 1, 0, a, b[:23*64]},
		{1<<63 - 1, 9, a, b[:23*64+9]},
		{1 << 62, 0, "", noughts(22*64) + b[22*64:23*64]},
		{1 << 6, 0, noughts(6*64) + a[6*64:7*64], ""},
		{math.MaxUint64 - 1<<62, 3, a, b[:22*64+3] + noughts(61) + b[23*64:]},
		{math.MaxUint64, 0, a, b},
	} {
		d := made(t, 70)
		put(t, d, 2, b)
		put(t, d, 1, a)
		d.Crash(c.mask, c.torn)
		d.Up()
		has(t, d, 1, c.want1)
		has(t, d, 2, c.want2)
	}
}

// 5.2: a dead disk answers ErrDead to all that would be told otherwise, and stays as it is.
func TestDead(t *testing.T) {
	d := made(t, 2)
	put(t, d, 1, text(100))
	ok(t, "Sync", d.Sync(1))
	put(t, d, 2, "")
	d.Crash(0, 0)
	if at, e := d.Append(-1, text(999)); at != 0 || e != api.ErrDead {
		t.Error(at, e)
	}
	told(t, "Append", second(d.Append(1, "")), api.ErrDead)
	for _, n := range []int{1, 5, -1} {
		told(t, "Write", d.Write(n, -1, "x"), api.ErrDead)
		told(t, "Write", d.Write(n, 0, "x"), api.ErrDead)
		told(t, "Sync", d.Sync(n), api.ErrDead)
		told(t, "Cut", d.Cut(n, -1), api.ErrDead)
		told(t, "Cut", d.Cut(n, 0), api.ErrDead)
		told(t, "Remove", d.Remove(n), api.ErrDead)
		if s, e := d.Read(n); s != "" || e != api.ErrDead {
			t.Error(s, e)
		}
	}
	if !d.Dead() || !slices.Equal(d.Files(), []int{1, 2}) {
		t.Error(d.Dead(), d.Files())
	}
	counts(t, d, 2, 0, 3)
	d.Crash(math.MaxUint64, 3)
	if !d.Up() || d.Dead() || d.Up() || d.Dead() {
		t.Error("Up tells whether it was dead")
	}
	has(t, d, 1, text(100))
	counts(t, d, 2, 0, 3)
}

// 5.2: what survived is sure; a second loss of power takes nothing of it.
func TestCrashTwice(t *testing.T) {
	d := made(t, 10)
	put(t, d, 1, text(200))
	d.Crash(2, 10)
	d.Crash(0, 0)
	d.Up()
	want := text(10) + noughts(54) + text(200)[64:128]
	has(t, d, 1, want)
	put(t, d, 1, "more")
	ok(t, "Write", d.Write(1, 10, "over"))
	counts(t, d, 3, 2, 3)
	d.Crash(0, 0)
	d.Up()
	has(t, d, 1, want)
}

// 5.2: Room.
func TestRoom(t *testing.T) {
	d := made(t, 1)
	told(t, "Append", second(d.Append(1, text(65))), api.ErrFull)
	d.Room(2)
	put(t, d, 1, text(65))
	d.Room(-1)
	d.Room(math.MinInt)
	put(t, d, 1, text(63))
	told(t, "Append", second(d.Append(1, "x")), api.ErrFull)
	d.Room(0)
	has(t, d, 1, text(65)+text(63))
	ok(t, "Cut", d.Cut(1, 65))
	// All files have more sectors than there are, though this byte needs no other one.
	told(t, "Append", second(d.Append(1, "x")), api.ErrFull)
	ok(t, "Write", d.Write(1, 0, "x"))
	put(t, d, 1, "")
	counts(t, d, 2, 1, 5)
	d.Crash(0, 0)
	d.Room(3)
	d.Up()
	put(t, d, 1, text(100))
	counts(t, d, 3, 2, 6)
	d.Room(math.MaxInt)
	put(t, d, 2, text(1000))
}

// 5.2: a strike comes ahead of its change, which is not done, and does not count.
func TestStrikeEach(t *testing.T) {
	for i, do := range []func(d *Disk) api.Errno{
		func(d *Disk) api.Errno { return second(d.Append(1, "x")) },
		func(d *Disk) api.Errno { return second(d.Append(5, "")) },
		func(d *Disk) api.Errno { return d.Write(1, 0, "x") },
		func(d *Disk) api.Errno { return d.Write(1, 100, "") },
		func(d *Disk) api.Errno { return d.Sync(1) },
		func(d *Disk) api.Errno { return d.Cut(1, 4) },
		func(d *Disk) api.Errno { return d.Remove(1) },
	} {
		d := made(t, 10)
		d.Plan([]api.Strike{{At: 2, Mask: 1, Torn: 1}})
		put(t, d, 1, text(100))
		put(t, d, 2, "y")
		told(t, "a change that is struck", do(d), api.ErrDead)
		if !d.Dead() {
			t.Error(i, "it has power yet")
		}
		counts(t, d, 2, 0, 2)
		d.Up()
		has(t, d, 1, text(65))
		has(t, d, 2, "")
		if !slices.Equal(d.Files(), []int{1, 2}) {
			t.Error(i, d.Files())
		}
		ok(t, "the same number again", d.Sync(2))
		counts(t, d, 2, 0, 3)
	}
}

// 5.2: what other errors hinder is no change, and no strike comes at it; nor is what changes nothing.
func TestStrikeWaits(t *testing.T) {
	d := made(t, 2)
	put(t, d, 1, text(100))
	d.Plan([]api.Strike{{At: 1}})
	told(t, "Append", second(d.Append(-1, "x")), api.ErrArg)
	told(t, "Append", second(d.Append(1, text(100))), api.ErrFull)
	told(t, "Write", d.Write(2, 0, "x"), api.ErrNone)
	told(t, "Write", d.Write(1, 100, "x"), api.ErrArg)
	told(t, "Sync", d.Sync(2), api.ErrNone)
	told(t, "Cut", d.Cut(2, 0), api.ErrNone)
	told(t, "Cut", d.Cut(1, 101), api.ErrArg)
	told(t, "Remove", d.Remove(2), api.ErrNone)
	told(t, "Read", second(d.Read(2)), api.ErrNone)
	has(t, d, 1, text(100))
	d.Files()
	d.Room(3)
	if d.Dead() || d.Up() {
		t.Error("struck")
	}
	counts(t, d, 2, 2, 1)
	told(t, "Sync", d.Sync(1), api.ErrDead)
}

// 5.2: strikes at the first change, at later ones, several at one change, some whose numbers have passed.
func TestPlan(t *testing.T) {
	d := made(t, 10)
	d.Plan([]api.Strike{{At: 3, Torn: 2}, {At: 0}, {At: -1, Mask: 1}, {At: 1, Mask: 1}, {At: 3, Torn: 5}, {At: 1, Torn: 9}})
	told(t, "change 0", second(d.Append(1, text(100))), api.ErrDead)
	counts(t, d, 0, 0, 0)
	if len(d.Files()) != 0 {
		t.Error(d.Files())
	}
	told(t, "Append", second(d.Append(1, text(100))), api.ErrDead)
	d.Up()
	put(t, d, 1, text(100))
	told(t, "change 1", d.Sync(1), api.ErrDead)
	d.Up()
	has(t, d, 1, text(64))
	told(t, "change 1, by the second strike", d.Sync(1), api.ErrDead)
	d.Up()
	ok(t, "Sync", d.Sync(1))
	put(t, d, 2, text(30))
	told(t, "change 3", d.Sync(2), api.ErrDead)
	d.Up()
	has(t, d, 2, text(2))
	told(t, "change 3, by the second strike", d.Write(2, 0, ""), api.ErrDead)
	d.Up()
	has(t, d, 2, text(2))
	ok(t, "no strike is left", d.Sync(2))
	counts(t, d, 2, 0, 4)
}

// 5.2: Plan lays another plan in the place of the one ahead; numbers that have passed never come.
func TestPlanAnew(t *testing.T) {
	d := made(t, 10)
	put(t, d, 1, "abc")
	put(t, d, 1, "def")
	d.Plan([]api.Strike{{At: 0}, {At: 1}, {At: 3}})
	ok(t, "change 2", d.Sync(1))
	d.Plan(nil)
	ok(t, "change 3", d.Sync(1))
	d.Plan([]api.Strike{{At: math.MinInt}, {At: math.MaxInt}, {At: 5}})
	ok(t, "change 4", d.Sync(1))
	d.Crash(0, 0)
	d.Plan([]api.Strike{{At: 6}})
	d.Up()
	ok(t, "change 5", d.Sync(1))
	told(t, "change 6", d.Sync(1), api.ErrDead)
	d.Up()
	d.Plan([]api.Strike{})
	ok(t, "change 6", d.Sync(1))
	counts(t, d, 1, 0, 7)
}

// R2: the plan that was handed in is not changed, and may be changed later.
func TestPlanOwn(t *testing.T) {
	d := made(t, 10)
	l := []api.Strike{{At: 2}, {At: 1}, {At: 1, Mask: 1}}
	d.Plan(l)
	if !slices.Equal(l, []api.Strike{{At: 2}, {At: 1}, {At: 1, Mask: 1}}) {
		t.Error(l)
	}
	l[0].At, l[1].At, l[2].At = 0, 0, 0
	put(t, d, 1, "x")
	told(t, "change 1", d.Sync(1), api.ErrDead)
}

// 5.2: a clone is the same, and goes its own way.
func TestClone(t *testing.T) {
	d := made(t, 10)
	put(t, d, 1, text(100))
	ok(t, "Sync", d.Sync(1))
	ok(t, "Write", d.Write(1, 3, "xyz"))
	put(t, d, 2, "abc")
	d.Plan([]api.Strike{{At: 7}, {At: 6, Mask: 1}})
	c := d.Clone()
	counts(t, c, 3, 2, 4)
	now := text(3) + "xyz" + text(100)[6:]
	has(t, c, 1, now)
	has(t, c, 2, "abc")

	ok(t, "Write", c.Write(1, 0, "CCC"))
	ok(t, "Write", c.Write(1, 99, "C"))
	told(t, "change 6 of the clone", c.Remove(2), api.ErrDead)
	c.Up()
	has(t, c, 1, "CCCxyz"+text(100)[6:])
	has(t, c, 2, "")
	c.Room(0)
	c.Plan(nil)
	ok(t, "Remove", c.Remove(1))

	counts(t, d, 3, 2, 4)
	has(t, d, 1, now)
	put(t, d, 2, text(64))
	put(t, d, 3, "x")
	told(t, "change 6", d.Sync(1), api.ErrDead)
	e := d.Clone()
	if !e.Dead() || e.Changes() != 6 {
		t.Error("a dead disk's clone has power")
	}
	d.Up()
	has(t, d, 1, now)
	has(t, d, 2, "")
	ok(t, "Sync", d.Sync(1))
	told(t, "change 7", d.Sync(1), api.ErrDead)
	if !e.Up() {
		t.Error("Up")
	}
	has(t, e, 1, now)
	ok(t, "Sync", e.Sync(1))
	told(t, "change 7 of the clone", e.Sync(1), api.ErrDead)
}

// 5.2: a clone that changes its files first leaves the one that it came from as it was.
func TestCloneShares(t *testing.T) {
	d := made(t, 100)
	put(t, d, 1, text(30))
	c := d.Clone()
	put(t, c, 1, "of the clone")
	put(t, d, 1, "of the other")
	has(t, c, 1, text(30)+"of the clone")
	has(t, d, 1, text(30)+"of the other")
	ok(t, "Write", c.Write(1, 0, "Z"))
	ok(t, "Sync", c.Sync(1))
	put(t, c, 4, "new")
	has(t, d, 1, text(30)+"of the other")
	d.Crash(0, 0)
	c.Crash(0, 0)
	d.Up()
	c.Up()
	has(t, d, 1, "")
	has(t, c, 1, "Z"+text(30)[1:]+"of the clone")
	if !slices.Equal(d.Files(), []int{1}) || !slices.Equal(c.Files(), []int{1, 4}) {
		t.Error(d.Files(), c.Files())
	}
}

// 5.2, R1: a nil disk.
func TestNil(t *testing.T) {
	var d *Disk
	if at, e := d.Append(-1, "x"); at != 0 || e != api.ErrDead {
		t.Error(at, e)
	}
	told(t, "Write", d.Write(0, 0, ""), api.ErrDead)
	told(t, "Sync", d.Sync(0), api.ErrDead)
	told(t, "Cut", d.Cut(0, -1), api.ErrDead)
	told(t, "Remove", d.Remove(0), api.ErrDead)
	if s, e := d.Read(0); s != "" || e != api.ErrDead {
		t.Error(s, e)
	}
	d.Room(1)
	d.Crash(1, 1)
	d.Plan([]api.Strike{{}})
	if d.Used() != 0 || len(d.Files()) != 0 || d.Up() || !d.Dead() || d.Changes() != 0 || d.Loose() != 0 || d.Clone() != nil {
		t.Error("a nil disk has something")
	}
}

// R1: a disk that New did not make is one without sectors.
func TestZero(t *testing.T) {
	d := new(Disk)
	told(t, "Read", second(d.Read(0)), api.ErrNone)
	told(t, "Append", second(d.Append(0, "x")), api.ErrFull)
	put(t, d, 0, "")
	d.Room(1)
	put(t, d, 0, "x")
	c := new(Disk).Clone()
	put(t, c, 0, "")
	new(Disk).Crash(1, 1)
}

// model is the chapter's words done plainly: each byte that is sure is kept beside those that are there.
type model struct {
	now, sure map[int]string
	loose     map[int]map[int]bool
	room      int
	changes   int
	plan      []api.Strike
	dead      bool
}

func (m *model) numbers() []int {
	var l []int
	for n := range m.now {
		l = append(l, n)
	}
	sort.Ints(l)
	return l
}

func (m *model) used() int {
	n := 0
	for _, s := range m.now {
		n += (len(s) + 63) / 64
	}
	return n
}

func (m *model) count() int {
	n := 0
	for _, l := range m.loose {
		n += len(l)
	}
	return n
}

func (m *model) crash(mask uint64, torn int) {
	if m.dead {
		return
	}
	seen, first := 0, true
	for _, n := range m.numbers() {
		now, b := m.now[n], []byte(m.sure[n])
		for k := 0; k*64 < len(now); k++ {
			if !m.loose[n][k] {
				continue
			}
			part := now[k*64 : min(k*64+64, len(now))]
			bit := min(seen, 63)
			seen++
			if mask&(1<<bit) == 0 {
				long := 0
				if first {
					long = max(0, min(torn, len(part)))
				}
				first = false
				part = part[:long]
			}
			for i := range len(part) {
				for len(b) <= k*64+i {
					b = append(b, 0)
				}
				b[k*64+i] = part[i]
			}
		}
		m.settle(n, string(b))
	}
	m.dead = true
}

func (m *model) settle(n int, s string) {
	m.now[n], m.sure[n] = s, s
	m.loose[n] = map[int]bool{}
}

func (m *model) struck() bool {
	for i, s := range m.plan {
		if s.At == m.changes {
			m.plan = append(append([]api.Strike{}, m.plan[:i]...), m.plan[i+1:]...)
			m.crash(s.Mask, s.Torn)
			return true
		}
	}
	m.changes++
	return false
}

func (m *model) loosen(n, at, long int) {
	if m.loose[n] == nil {
		m.loose[n] = map[int]bool{}
	}
	for i := at; i < at+long; i++ {
		m.loose[n][i/64] = true
	}
}

func (m *model) put(n int, s string) (int, api.Errno) {
	old := len(m.now[n])
	full := m.used()-(old+63)/64+(old+len(s)+63)/64 > m.room
	switch {
	case m.dead:
		return 0, api.ErrDead
	case n < 0:
		return 0, api.ErrArg
	case s != "" && full:
		return 0, api.ErrFull
	case m.struck():
		return 0, api.ErrDead
	}
	m.now[n] += s
	m.loosen(n, old, len(s))
	return old, api.OK
}

// change is Write, Sync, Cut and Remove.
func (m *model) change(kind, n, at int, s string) api.Errno {
	now, there := m.now[n]
	switch {
	case m.dead:
		return api.ErrDead
	case !there:
		return api.ErrNone
	case kind == 0 && (at < 0 || at+len(s) > len(now)):
		return api.ErrArg
	case kind == 2 && (at < 0 || at > len(now)):
		return api.ErrArg
	case m.struck():
		return api.ErrDead
	}
	switch kind {
	case 0:
		m.now[n] = now[:at] + s + now[at+len(s):]
		m.loosen(n, at, len(s))
	case 1:
		m.settle(n, now)
	case 2:
		m.settle(n, now[:at])
	case 3:
		delete(m.now, n)
		delete(m.sure, n)
		delete(m.loose, n)
	}
	return api.OK
}

func (m *model) same(t *testing.T, d *Disk) {
	t.Helper()
	if d.Used() != m.used() || d.Loose() != m.count() || d.Changes() != m.changes || d.Dead() != m.dead || !slices.Equal(d.Files(), m.numbers()) {
		t.Fatalf("used %d, loose %d, changes %d, dead %v, files %v; want %d, %d, %d, %v, %v", d.Used(), d.Loose(), d.Changes(), d.Dead(), d.Files(), m.used(), m.count(), m.changes, m.dead, m.numbers())
	}
	if m.dead {
		return
	}
	for n, s := range m.now {
		has(t, d, n, s)
	}
	if t.Failed() {
		t.FailNow()
	}
}

// 5.1, 5.2: long runs of calls, held against the model.
func TestAgainstModel(t *testing.T) {
	for seed := range int64(60) {
		r := rand.New(rand.NewSource(seed))
		room := r.Intn(80)
		d := made(t, room)
		m := &model{now: map[int]string{}, sure: map[int]string{}, loose: map[int]map[int]bool{}, room: room}
		for range 400 {
			one(t, r, d, m)
			m.same(t, d)
			if r.Intn(50) == 0 {
				old := d
				d = d.Clone()
				old.Plan(nil)
				old.Up()
				old.Write(r.Intn(5), 0, text(40))
				old.Append(r.Intn(5), text(40))
				old.Cut(r.Intn(5), 0)
				m.same(t, d)
			}
		}
	}
}

// one does a chosen call to both.
func one(t *testing.T, r *rand.Rand, d *Disk, m *model) {
	t.Helper()
	n, s := r.Intn(6)-1, text(max(0, r.Intn(300)-40))
	if r.Intn(20) == 0 {
		s = text(r.Intn(3000))
	}
	mask, torn := r.Uint64()&r.Uint64(), r.Intn(90)-10
	switch k := r.Intn(12); k {
	case 0, 1, 2:
		at, e := d.Append(n, s)
		if want, we := m.put(n, s); at != want || e != we {
			t.Fatalf("Append(%d, %d): %d, %v; want %d, %v", n, len(s), at, e, want, we)
		}
	case 3, 4, 5, 6, 7:
		kind, at := min(k-3, 3), r.Intn(300)-2
		e := []func() api.Errno{
			func() api.Errno { return d.Write(n, at, s) }, func() api.Errno { return d.Sync(n) },
			func() api.Errno { return d.Cut(n, at) }, func() api.Errno { return d.Remove(n) },
		}[kind]()
		told(t, "a change", e, m.change(kind, n, at, s))
	case 8:
		d.Crash(mask, torn)
		m.crash(mask, torn)
	case 9, 10:
		if up := d.Up(); up != m.dead {
			t.Fatal(up)
		}
		m.dead = false
	case 11:
		var l []api.Strike
		for range r.Intn(4) {
			l = append(l, api.Strike{At: m.changes + r.Intn(4) - 1, Mask: mask, Torn: torn})
		}
		d.Plan(l)
		m.plan = l
		m.room = max(0, m.room+r.Intn(20)-10)
		d.Room(m.room)
		d.Room(-1 - r.Intn(9))
	}
}

// R4: the same calls in the same order answer the same.
func TestSame(t *testing.T) {
	run := func() string {
		d := made(t, 100)
		for n := range 20 {
			put(t, d, 19-n, text(100))
		}
		d.Crash(0x123456789abcdef, 17)
		d.Up()
		all := ""
		for _, n := range d.Files() {
			s, _ := d.Read(n)
			all += s + "|"
		}
		return all
	}
	want := run()
	for range 10 {
		if run() != want {
			t.Fatal("another answer")
		}
	}
}

// Many small appends, each synced, do not cost the whole file each.
func TestManySyncs(t *testing.T) {
	d := made(t, math.MaxInt)
	l := make([]api.Strike, 200000)
	for i := range l {
		l[i].At = 1 << 40
	}
	d.Plan(l)
	for range 200000 {
		d.Append(1, "0123456789abcdef")
		d.Sync(1)
	}
	counts(t, d, 50000, 0, 400000)
}

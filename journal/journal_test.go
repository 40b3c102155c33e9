package journal

import (
	"fmt"
	"math"
	"math/rand"
	"slices"
	"strings"
	"testing"

	"parchment/api"
	"parchment/disk"
	"parchment/frame"
)

// text is n bytes, none of which is 0, that tell their places.
func text(n int) string {
	b := make([]byte, n)
	for i := range b {
		b[i] = byte(1 + (i*7+i/64)%255)
	}
	return string(b)
}

func noughts(n int) string { return string(make([]byte, n)) }

// frames is the frames of bodies, one behind the other.
func frames(bodies ...string) string {
	s := ""
	for _, b := range bodies {
		f, _ := frame.Make(b)
		s += f
	}
	return s
}

// disked is a disk that has texts in files 1, 2 .., all of them sure.
func disked(t *testing.T, texts ...string) *disk.Disk {
	t.Helper()
	d, e := disk.New(10000)
	if e != api.OK {
		t.Fatal(e)
	}
	for i, s := range texts {
		laid(t, d, i+1, s)
	}
	return d
}

// laid puts a text behind a file's bytes, and makes it sure.
func laid(t *testing.T, d *disk.Disk, n int, s string) {
	t.Helper()
	if _, e := d.Append(n, s); e != api.OK {
		t.Fatal(e)
	}
	told(t, "Sync", d.Sync(n), api.OK)
}

func opened(t *testing.T, d *disk.Disk, most int) *Journal {
	t.Helper()
	j, e := Open(d, most)
	if e != api.OK || j == nil {
		t.Fatalf("Open: %v, %v", j, e)
	}
	return j
}

func told(t *testing.T, what string, got, want api.Errno) {
	t.Helper()
	if got != want {
		t.Errorf("%s: %v, want %v", what, got, want)
	}
}

func adds(t *testing.T, j *Journal, bodies ...string) {
	t.Helper()
	want := j.Len()
	if at, e := j.Add(bodies...); at != want || e != api.OK {
		t.Fatalf("Add of %d: %d, %v; want %d", len(bodies), at, e, want)
	}
}

func all(j *Journal) []api.Record {
	var l []api.Record
	for i := range j.Len() {
		r, _ := j.At(i)
		l = append(l, r)
	}
	return l
}

// has has a journal hold just these records, with so many files.
func has(t *testing.T, j *Journal, files int, want ...api.Record) {
	t.Helper()
	if j.Len() != len(want) || j.Files() != files {
		t.Errorf("%d records, %d files; want %d, %d", j.Len(), j.Files(), len(want), files)
	}
	for i, w := range want {
		if r, is := j.At(i); r != w || !is {
			t.Errorf("record %d: %s, %v; want %s", i, shown(r), is, shown(w))
		}
	}
	for _, i := range []int{-1, len(want), len(want) + 1, math.MinInt, math.MaxInt} {
		if r, is := j.At(i); r != (api.Record{}) || is {
			t.Errorf("record %d: %v, %v", i, r, is)
		}
	}
}

// shown is records in letters, without the ends of long bodies.
func shown(l ...api.Record) string {
	s := ""
	for _, r := range l {
		s += fmt.Sprintf("{%d %d %.40q (%d bytes) %v}", r.File, r.At, r.Body, len(r.Body), r.Good)
	}
	return s
}

// stands has a disk hold just these files.
func stands(t *testing.T, d *disk.Disk, want map[int]string) {
	t.Helper()
	if len(d.Files()) != len(want) {
		t.Errorf("files %v, want %d", d.Files(), len(want))
	}
	for n, w := range want {
		if s, e := d.Read(n); s != w || e != api.OK {
			t.Errorf("file %d: %.200q, %v; want %.200q", n, s, e, w)
		}
	}
}

// contents is all that a disk shows.
func contents(d *disk.Disk) map[int]string {
	m := map[int]string{}
	for _, n := range d.Files() {
		m[n], _ = d.Read(n)
	}
	return m
}

// good is a record that is as it was written.
func good(file, at int, body string) api.Record {
	return api.Record{File: file, At: at, Body: body, Good: true}
}

// 7.1: what Open refuses, in its order.
func TestOpenErrors(t *testing.T) {
	for _, most := range []int{0, -1, math.MinInt} {
		if j, e := Open(disked(t), most); j != nil || e != api.ErrArg {
			t.Errorf("most %d: %v, %v", most, j, e)
		}
	}
	for _, most := range []int{-1, 0, 1, 40} {
		if j, e := Open(nil, most); j != nil || e != api.ErrArg {
			t.Errorf("no disk: %v, %v", j, e)
		}
	}
	d := disked(t, frames("a"))
	d.Crash(0, 0)
	if j, e := Open(d, 1); j != nil || e != api.ErrDead {
		t.Errorf("a dead disk: %v, %v", j, e)
	}
	if j, e := Open(d, 0); j != nil || e != api.ErrArg {
		t.Errorf("a dead disk, most 0: %v, %v", j, e)
	}
	d.Up()
	has(t, opened(t, d, 1), 1, good(1, 12, "a"))
}

// 7.1: no file, or none that is the first.
func TestOpenNothing(t *testing.T) {
	has(t, opened(t, disked(t), 40), 0)
	has(t, opened(t, disked(t), math.MaxInt), 0)
	has(t, opened(t, new(disk.Disk), 1), 0)
	d := disked(t)
	laid(t, d, 0, frames("a"))
	has(t, opened(t, d, 40), 0)
	laid(t, d, 2, frames("b"))
	has(t, opened(t, d, 40), 0)
}

// 7.1: records of file 1 and on, whatever most is.
func TestOpenReads(t *testing.T) {
	d := disked(t, frames("a", "", "ccc"), frames("dd"), frames(text(300), "e"))
	laid(t, d, 0, frames("of no journal"))
	want := []api.Record{good(1, 12, "a"), good(1, 25, ""), good(1, 37, "ccc"), good(2, 12, "dd"), good(3, 12, text(300)), good(3, 324, "e")}
	for _, most := range []int{1, 2, 40, 41, 1000, math.MaxInt} {
		has(t, opened(t, d, most), 3, want...)
	}
}

// 7.1: it ends at the first file that is not there, though others are.
func TestOpenGap(t *testing.T) {
	d := disked(t, frames("a"), frames("b"))
	laid(t, d, 4, frames("d"))
	has(t, opened(t, d, 40), 2, good(1, 12, "a"), good(2, 12, "b"))
}

// 7.1: a file without bytes is there, and has no frame that is not whole.
func TestOpenEmptyFile(t *testing.T) {
	has(t, opened(t, disked(t, ""), 40), 1)
	has(t, opened(t, disked(t, "", ""), 40), 2)
	has(t, opened(t, disked(t, frames("a"), ""), 40), 2, good(1, 12, "a"))
	has(t, opened(t, disked(t, frames("a"), "", frames("c")), 40), 3, good(1, 12, "a"), good(3, 12, "c"))
}

// 7.1: it ends at the first frame that is not there whole, wherever a file is cut; records ahead of it are there, files behind it are not read.
func TestOpenCut(t *testing.T) {
	whole := frames("b", text(20), "", "e")
	records := []api.Record{good(2, 12, "b"), good(2, 25, text(20)), good(2, 57, ""), good(2, 69, "e")}
	for n := range len(whole) + 1 {
		want := []api.Record{good(1, 12, "a")}
		end := 0
		for _, r := range records {
			if r.At+len(r.Body) <= n {
				want = append(want, r)
				end = r.At + len(r.Body)
			}
		}
		has(t, opened(t, disked(t, frames("a"), whole[:n]), 5), 2, want...)
		files := 2
		if end == n {
			files = 3
			want = append(want, good(3, 12, "of the next one"))
		}
		has(t, opened(t, disked(t, frames("a"), whole[:n], frames("of the next one")), 5), files, want...)
	}
}

// 7.1: bytes that are no frame, in the first file, and behind frames.
func TestOpenNoFrame(t *testing.T) {
	for _, s := range []string{"x", text(11), text(12), text(500), noughts(1), noughts(64), frames("b")[:12], frames(text(9))[:20], strings.Repeat("\xff", 99)} {
		has(t, opened(t, disked(t, s), 40), 1)
		has(t, opened(t, disked(t, s, frames("c")), 1), 1)
		has(t, opened(t, disked(t, frames("a")+s, frames("c")), 1), 1, good(1, 12, "a"))
	}
}

// 7.1: a record whose body was changed is a record, and is not Good; those behind it are there.
func TestOpenNotGood(t *testing.T) {
	d := disked(t, frames("a", "secret", "c"), frames("d"))
	told(t, "Write", d.Write(1, 27, "x"), api.OK)
	has(t, opened(t, d, 40), 2, good(1, 12, "a"), api.Record{File: 1, At: 25, Body: "sexret"}, good(1, 43, "c"), good(2, 12, "d"))
	told(t, "Write", d.Write(1, 25, noughts(6)), api.OK)
	has(t, opened(t, d, 40), 2, good(1, 12, "a"), api.Record{File: 1, At: 25, Body: noughts(6)}, good(1, 43, "c"), good(2, 12, "d"))
	told(t, "Write", d.Write(2, 9, "x"), api.OK)
	has(t, opened(t, d, 40), 2, good(1, 12, "a"), api.Record{File: 1, At: 25, Body: noughts(6)}, good(1, 43, "c"), api.Record{File: 2, At: 12, Body: "d"})
}

// 7.1: Open, and what asks only, change nothing on the disk, though bytes are torn, or loose, or a strike waits.
func TestOpenChangesNothing(t *testing.T) {
	d := disked(t, frames("a")+"torn", frames("b"), "")
	laid(t, d, 9, "x")
	if _, e := d.Append(2, "loose"); e != api.OK {
		t.Fatal(e)
	}
	d.Plan([]api.Strike{{At: d.Changes()}})
	changes, loose, used, before := d.Changes(), d.Loose(), d.Used(), contents(d)
	j := opened(t, d, 5)
	has(t, j, 1, good(1, 12, "a"))
	stands(t, d, before)
	if d.Changes() != changes || d.Loose() != loose || d.Used() != used || d.Dead() {
		t.Error(d.Changes(), d.Loose(), d.Used(), d.Dead())
	}
	told(t, "the strike still waits", d.Sync(1), api.ErrDead)
	d.Up()
}

// 7.1: what is told is told without power, too, as are records when it comes again.
func TestToldWithoutPower(t *testing.T) {
	d := disked(t, frames("a"))
	j := opened(t, d, 5)
	adds(t, j, "b")
	d.Crash(0, 0)
	has(t, j, 2, good(1, 12, "a"), good(2, 12, "b"))
	d.Up()
	has(t, j, 2, good(1, 12, "a"), good(2, 12, "b"))
}

// 7.2: Add puts frames behind one another: the index of the first, where they stand, one Append and one Sync.
func TestAdd(t *testing.T) {
	d := disked(t)
	j := opened(t, d, 1000)
	adds(t, j, "a", "", "ccc")
	has(t, j, 1, good(1, 12, "a"), good(1, 25, ""), good(1, 37, "ccc"))
	stands(t, d, map[int]string{1: frames("a", "", "ccc")})
	if d.Changes() != 2 || d.Loose() != 0 {
		t.Error(d.Changes(), d.Loose())
	}
	if at, e := j.Add("d"); at != 3 || e != api.OK {
		t.Error(at, e)
	}
	stands(t, d, map[int]string{1: frames("a", "", "ccc", "d")})
	if d.Changes() != 4 || d.Loose() != 0 {
		t.Error(d.Changes(), d.Loose())
	}
	has(t, opened(t, d, 1000), 1, all(j)...)
}

// 7.2, words: a file of most bytes or more is followed by another one; of one byte less it is not.
func TestAddNextFile(t *testing.T) {
	for most := 1; most < 70; most++ {
		d := disked(t)
		j := opened(t, d, most)
		var texts []string
		for i := range 20 {
			b := text(i % 5)
			adds(t, j, b)
			if len(texts) == 0 || len(texts[len(texts)-1]) >= most {
				texts = append(texts, "")
			}
			last := len(texts) - 1
			texts[last] += frames(b)
			r, _ := j.At(i)
			if want := good(last+1, len(texts[last])-len(b), b); r != want || j.Files() != last+1 {
				t.Fatalf("most %d, record %d: %s, %d files; want %s", most, i, shown(r), j.Files(), shown(want))
			}
		}
		want := map[int]string{}
		for i, s := range texts {
			want[i+1] = s
		}
		stands(t, d, want)
		has(t, opened(t, d, most), len(texts), all(j)...)
	}
}

// 7.2: all bodies of one Add stand in one file, however many bytes they have.
func TestAddInOneFile(t *testing.T) {
	d := disked(t)
	j := opened(t, d, 20)
	adds(t, j, "a")
	adds(t, j, text(100), text(200), "", text(300))
	adds(t, j, "f")
	stands(t, d, map[int]string{1: frames("a", text(100), text(200), "", text(300)), 2: frames("f")})
	if d.Changes() != 6 {
		t.Error(d.Changes())
	}
	has(t, j, 2, good(1, 12, "a"), good(1, 25, text(100)), good(1, 137, text(200)), good(1, 349, ""), good(1, 361, text(300)), good(2, 12, "f"))
}

// 7.2: how many bytes a file has is asked behind Open, too.
func TestAddBehindOpen(t *testing.T) {
	for _, c := range []struct{ most, file, at int }{{1, 2, 12}, {12, 2, 12}, {13, 2, 12}, {14, 1, 25}, {99, 1, 25}} {
		d := disked(t, frames("a"))
		j := opened(t, d, c.most)
		adds(t, j, "b")
		has(t, j, c.file, good(1, 12, "a"), good(c.file, c.at, "b"))
		has(t, opened(t, d, c.most), c.file, all(j)...)
	}
	// A file that has no bytes is not full.
	d := disked(t, frames("a"), "")
	j := opened(t, d, 1)
	adds(t, j, "b")
	stands(t, d, map[int]string{1: frames("a"), 2: frames("b")})
	d = disked(t, "")
	j = opened(t, d, 1)
	adds(t, j, "a")
	stands(t, d, map[int]string{1: frames("a")})
}

// 7.2: Add is behind all of the last file's bytes, those that are no record included; these count for most.
func TestAddBehindTorn(t *testing.T) {
	d := disked(t, frames("a")+"torn")
	j := opened(t, d, 18)
	adds(t, j, "b")
	has(t, j, 1, good(1, 12, "a"), good(1, 29, "b"))
	stands(t, d, map[int]string{1: frames("a") + "torn" + frames("b")})
	d = disked(t, frames("a")+"torn")
	j = opened(t, d, 17)
	adds(t, j, "b")
	has(t, j, 2, good(1, 12, "a"), good(2, 12, "b"))
	stands(t, d, map[int]string{1: frames("a") + "torn", 2: frames("b")})
}

// 7.2: a file that Open did not come to, and that is written to, is written to behind its bytes.
func TestAddToFileNotRead(t *testing.T) {
	d := disked(t, frames("a")+"torn", frames("old"))
	j := opened(t, d, 17)
	adds(t, j, "b")
	has(t, j, 2, good(1, 12, "a"), good(2, 27, "b"))
	stands(t, d, map[int]string{1: frames("a") + "torn", 2: frames("old", "b")})
}

// 7.2: a first file comes, though there are others.
func TestAddFirstFile(t *testing.T) {
	d := disked(t)
	laid(t, d, 0, text(50))
	laid(t, d, 3, text(50))
	j := opened(t, d, 20)
	adds(t, j, "a")
	has(t, j, 1, good(1, 12, "a"))
	stands(t, d, map[int]string{0: text(50), 1: frames("a"), 3: text(50)})
}

// 7.2: Add of no bodies: an Append of no bytes, a Sync, and where the next one would stand.
func TestAddNone(t *testing.T) {
	d := disked(t)
	j := opened(t, d, 20)
	adds(t, j, "a")
	adds(t, j)
	adds(t, j, []string{}...)
	has(t, j, 1, good(1, 12, "a"))
	stands(t, d, map[int]string{1: frames("a")})
	if d.Changes() != 6 {
		t.Error(d.Changes())
	}
	d.Crash(0, 0)
	if at, e := j.Add(); at != 0 || e != api.ErrDead {
		t.Error(at, e)
	}
}

// 7.2: bodies of all lengths that may be; one that is too long: ErrLimit, ahead of what the disk says, and nothing is done.
func TestAddLimit(t *testing.T) {
	d := disked(t)
	j := opened(t, d, 100)
	adds(t, j, text(api.MaxBody), "b")
	want := []api.Record{good(1, 12, text(api.MaxBody)), good(1, api.MaxBody+24, "b")}
	has(t, j, 1, want...)
	changes, before := d.Changes(), contents(d)
	long := text(api.MaxBody + 1)
	for _, l := range [][]string{{long}, {"c", long}, {long, "c"}, {"c", "d", long, "e"}, {long, long}, {text(3 * api.MaxBody)}} {
		if at, e := j.Add(l...); at != 0 || e != api.ErrLimit {
			t.Error(at, e)
		}
	}
	has(t, j, 1, want...)
	stands(t, d, before)
	if d.Changes() != changes {
		t.Error(d.Changes(), changes)
	}
	d.Room(0)
	told(t, "a full disk", second(j.Add(long)), api.ErrLimit)
	d.Crash(0, 0)
	told(t, "a dead disk", second(j.Add(long)), api.ErrLimit)
	has(t, j, 1, want...)
	d.Up()
	has(t, opened(t, d, 100), 1, want...)
}

func second[T any](_ T, e api.Errno) api.Errno { return e }

// 7.2: no room: ErrFull, and all is as it was, in the last file and in another one; with room it goes on.
func TestAddFull(t *testing.T) {
	for _, most := range []int{10, 1000} {
		d := disked(t)
		d.Room(2)
		j := opened(t, d, most)
		adds(t, j, text(60))
		want := all(j)
		changes, before := d.Changes(), contents(d)
		if at, e := j.Add("b", text(60)); at != 0 || e != api.ErrFull {
			t.Error(at, e)
		}
		has(t, j, 1, want...)
		stands(t, d, before)
		if d.Changes() != changes || d.Dead() {
			t.Error(d.Changes(), d.Dead())
		}
		has(t, opened(t, d, most), 1, want...)
		d.Room(9)
		adds(t, j, "b", text(60))
		has(t, opened(t, d, most), j.Files(), all(j)...)
	}
	// Into no file at all.
	d := disked(t)
	d.Room(0)
	j := opened(t, d, 10)
	told(t, "Add", second(j.Add("a")), api.ErrFull)
	has(t, j, 0)
	stands(t, d, nil)
}

// Example 1.
func TestExample(t *testing.T) {
	for _, mask := range []uint64{0, math.MaxUint64, 5} {
		d := disked(t)
		j := opened(t, d, 40)
		adds(t, j, "a", "b")
		d.Crash(mask, 3)
		d.Up()
		has(t, opened(t, d, 40), 1, good(1, 12, "a"), good(1, 25, "b"))
	}
}

// 7.2, R1: without power: ErrDead, behind the errors of arguments, and all is as it was.
func TestDead(t *testing.T) {
	d := disked(t)
	j := opened(t, d, 20)
	adds(t, j, "a", "b")
	adds(t, j, "c")
	want, before := all(j), contents(d)
	d.Crash(0, 0)
	if at, e := j.Add("x"); at != 0 || e != api.ErrDead {
		t.Error(at, e)
	}
	for n := range 4 {
		told(t, "Keep", j.Keep(n), api.ErrDead)
	}
	told(t, "Blank", j.Blank(0, 0, 1), api.ErrDead)
	told(t, "Blank of nothing", j.Blank(0, 0, 0), api.ErrDead)
	told(t, "Keep", j.Keep(4), api.ErrArg)
	told(t, "Keep", j.Keep(-1), api.ErrArg)
	told(t, "Blank", j.Blank(3, 0, 0), api.ErrArg)
	told(t, "Blank", j.Blank(0, 0, 2), api.ErrArg)
	has(t, j, 2, want...)
	d.Up()
	stands(t, d, before)
	has(t, opened(t, d, 20), 2, want...)
	adds(t, j, "d")
	has(t, opened(t, d, 20), 2, all(j)...)
}

// 7.2: Keep of each number: what is left, in memory and on the disk, and for one who opens it.
func TestKeep(t *testing.T) {
	texts := []string{frames("a", "bb"), frames("", "d", text(99)), frames("f"), frames("g", "h")}
	records := []api.Record{
		good(1, 12, "a"), good(1, 25, "bb"), good(2, 12, ""), good(2, 24, "d"), good(2, 37, text(99)),
		good(3, 12, "f"), good(4, 12, "g"), good(4, 25, "h"),
	}
	for n := range len(records) + 1 {
		d := disked(t, texts...)
		j := opened(t, d, 20)
		changes := d.Changes()
		told(t, "Keep", j.Keep(n), api.OK)
		file, long := 1, 0
		if n > 0 {
			r := records[n-1]
			file, long = r.File, r.At+len(r.Body)
		}
		want := map[int]string{}
		for i := range file {
			want[i+1] = texts[i]
		}
		want[file] = texts[file-1][:long]
		has(t, j, file, records[:n]...)
		stands(t, d, want)
		changes += len(texts) - file
		if long < len(texts[file-1]) {
			changes++
		}
		if d.Changes() != changes || d.Loose() != 0 {
			t.Errorf("Keep(%d): %d changes, want %d; %d loose", n, d.Changes(), changes, d.Loose())
		}
		told(t, "Keep of that again", j.Keep(n), api.OK)
		told(t, "Keep of more", j.Keep(n+1), api.ErrArg)
		if d.Changes() != changes {
			t.Errorf("Keep(%d) again: %d changes, want %d", n, d.Changes(), changes)
		}
		d.Crash(0, 0)
		d.Up()
		has(t, opened(t, d, 20), file, records[:n]...)
		adds(t, j, "new", "er")
		has(t, opened(t, d, 20), j.Files(), all(j)...)
	}
}

// 7.2: numbers that Keep refuses.
func TestKeepErrors(t *testing.T) {
	d := disked(t, frames("a", "b")+"torn", frames("c"))
	j := opened(t, d, 20)
	before, changes := contents(d), d.Changes()
	for _, n := range []int{-1, 3, 4, math.MinInt, math.MaxInt} {
		told(t, "Keep", j.Keep(n), api.ErrArg)
	}
	has(t, j, 1, good(1, 12, "a"), good(1, 25, "b"))
	stands(t, d, before)
	if d.Changes() != changes {
		t.Error(d.Changes(), changes)
	}
}

// 7.2: Keep without records: of no file at all nothing is left, nor made; of one that is there, no bytes are.
func TestKeepNone(t *testing.T) {
	d := disked(t)
	j := opened(t, d, 20)
	told(t, "Keep", j.Keep(0), api.OK)
	told(t, "Keep", j.Keep(1), api.ErrArg)
	has(t, j, 0)
	stands(t, d, nil)
	if d.Changes() != 0 {
		t.Error(d.Changes())
	}
	d = disked(t, "torn")
	j = opened(t, d, 20)
	told(t, "Keep", j.Keep(0), api.OK)
	has(t, j, 1)
	stands(t, d, map[int]string{1: ""})
	adds(t, j, "a")
	stands(t, d, map[int]string{1: frames("a")})
	// The first file is not there, one behind it is; file 0 is none of the journal's.
	d = disked(t)
	laid(t, d, 0, "x")
	laid(t, d, 2, frames("b"))
	j = opened(t, d, 20)
	told(t, "Keep", j.Keep(0), api.OK)
	has(t, j, 0)
	stands(t, d, map[int]string{0: "x"})
}

// 7.2: bytes behind the last record go, though there is no record behind it; what is added then is found.
func TestKeepCutsTorn(t *testing.T) {
	d := disked(t, frames("a"), frames("b")+text(100))
	j := opened(t, d, 10)
	changes := d.Changes()
	told(t, "Keep", j.Keep(2), api.OK)
	if d.Changes() != changes+1 {
		t.Error(d.Changes(), changes)
	}
	has(t, j, 2, good(1, 12, "a"), good(2, 12, "b"))
	stands(t, d, map[int]string{1: frames("a"), 2: frames("b")})
	adds(t, j, "c")
	has(t, opened(t, d, 10), 3, good(1, 12, "a"), good(2, 12, "b"), good(3, 12, "c"))
	// A file of torn bytes alone stands behind that of the last record.
	d = disked(t, frames("a"), "torn")
	j = opened(t, d, 10)
	has(t, j, 2, good(1, 12, "a"))
	told(t, "Keep", j.Keep(1), api.OK)
	has(t, j, 1, good(1, 12, "a"))
	stands(t, d, map[int]string{1: frames("a")})
}

// 7.2: all files behind go, those that were not read included: else they would come again when others come ahead of them.
func TestKeepFilesNotRead(t *testing.T) {
	d := disked(t, frames("a", "b"), frames("c")+"torn", frames("old"), frames("older"))
	laid(t, d, 0, "x")
	laid(t, d, 7, frames("oldest"))
	laid(t, d, math.MaxInt, frames("last"))
	j := opened(t, d, 10)
	has(t, j, 2, good(1, 12, "a"), good(1, 25, "b"), good(2, 12, "c"))
	c := d.Clone()
	told(t, "Keep", j.Keep(3), api.OK)
	stands(t, d, map[int]string{0: "x", 1: frames("a", "b"), 2: frames("c")})
	adds(t, j, "d")
	has(t, opened(t, d, 10), 3, all(j)...)
	j = opened(t, c, 10)
	told(t, "Keep", j.Keep(1), api.OK)
	has(t, j, 1, good(1, 12, "a"))
	stands(t, c, map[int]string{0: "x", 1: frames("a")})
}

// 7.2: files go from the last one on, then one is cut; wherever the power fails, what is left is the first records, the journal is as it was, and Keep can be asked again.
func TestKeepStruck(t *testing.T) {
	texts := []string{frames("a", "b"), frames("c", "d"), frames("e"), frames("f")}
	for _, c := range []struct{ n, changes int }{{0, 4}, {1, 4}, {2, 3}, {3, 3}, {4, 2}, {5, 1}} {
		for k := range c.changes {
			d := disked(t, texts...)
			j := opened(t, d, 20)
			records := all(j)
			d.Plan([]api.Strike{{At: d.Changes() + k, Mask: 1, Torn: 7}})
			told(t, "Keep", j.Keep(c.n), api.ErrDead)
			has(t, j, 4, records...)
			d.Up()
			want := map[int]string{}
			for i := range 4 - min(k, 3) {
				want[i+1] = texts[i]
			}
			stands(t, d, want)
			left := opened(t, d, 20)
			has(t, left, len(want), records[:left.Len()]...)
			told(t, "Keep again", j.Keep(c.n), api.OK)
			has(t, opened(t, d, 20), j.Files(), records[:c.n]...)
			has(t, j, j.Files(), records[:c.n]...)
			told(t, "Keep of one who opened it between", left.Keep(c.n), api.OK)
		}
	}
}

// 7.2: Keep of records whose file somebody else took away: the disk's error.
func TestKeepFileTakenAway(t *testing.T) {
	d := disked(t, frames("a"), frames("b"))
	j := opened(t, d, 5)
	told(t, "Remove", d.Remove(2), api.OK)
	told(t, "Keep", j.Keep(2), api.ErrNone)
	has(t, j, 2, good(1, 12, "a"), good(2, 12, "b"))
	told(t, "Keep", j.Keep(1), api.OK)
	has(t, j, 1, good(1, 12, "a"))
}

// 7.2: Keep is not hindered by a full disk.
func TestKeepFull(t *testing.T) {
	d := disked(t, frames("a", "b"), frames("c"))
	d.Room(0)
	j := opened(t, d, 5)
	told(t, "Keep", j.Keep(1), api.OK)
	told(t, "Blank", j.Blank(0, 0, 1), api.OK)
	told(t, "Add", second(j.Add("x")), api.ErrFull)
	has(t, opened(t, d, 5), 1, api.Record{File: 1, At: 12, Body: "\x00"})
}

// 7.2: Blank of each piece of a body: noughts there, and nothing else is changed; one Write, one Sync.
func TestBlank(t *testing.T) {
	body := text(6)
	for from := range len(body) + 1 {
		for n := range len(body) - from + 1 {
			d := disked(t, frames("a"), frames("b", body, "d"))
			j := opened(t, d, 1)
			changes := d.Changes()
			told(t, "Blank", j.Blank(2, from, n), api.OK)
			other := body[:from] + noughts(n) + body[from+n:]
			want := []api.Record{good(1, 12, "a"), good(2, 12, "b"), {File: 2, At: 25, Body: other, Good: n == 0}, good(2, 43, "d")}
			has(t, j, 2, want...)
			stands(t, d, map[int]string{1: frames("a"), 2: strings.Replace(frames("b", body, "d"), body, other, 1)})
			if d.Changes() != changes+2 || d.Loose() != 0 {
				t.Error(d.Changes(), changes, d.Loose())
			}
			d.Crash(0, 0)
			d.Up()
			has(t, opened(t, d, 1), 2, want...)
		}
	}
}

// 7.2: records, and bytes of them, that are not there; and none of them, which are.
func TestBlankErrors(t *testing.T) {
	d := disked(t, frames("a", "secret", ""))
	j := opened(t, d, 100)
	want, before, changes := all(j), contents(d), d.Changes()
	for _, c := range []struct{ i, from, n int }{
		{-1, 0, 0}, {3, 0, 0}, {math.MinInt, 0, 0}, {math.MaxInt, 0, 1},
		{1, -1, 1}, {1, -1, 0}, {1, 0, -1}, {1, 6, -1}, {1, 0, 7}, {1, 1, 6}, {1, 6, 1}, {1, 7, 0}, {1, 7, -1},
		{1, math.MaxInt, 1}, {1, 1, math.MaxInt}, {1, math.MaxInt, math.MaxInt}, {1, math.MinInt, math.MaxInt}, {1, 0, math.MinInt},
		{1, math.MinInt, math.MinInt}, {1, math.MaxInt, math.MinInt}, {1, math.MinInt, 0}, {2, 0, 1}, {2, 1, 0}, {0, 0, 2}, {0, 2, 0},
	} {
		told(t, "Blank", j.Blank(c.i, c.from, c.n), api.ErrArg)
	}
	has(t, j, 1, want...)
	stands(t, d, before)
	if d.Changes() != changes {
		t.Error(d.Changes(), changes)
	}
	for _, c := range []struct{ i, from int }{{0, 0}, {0, 1}, {1, 0}, {1, 3}, {1, 6}, {2, 0}} {
		told(t, "Blank of none", j.Blank(c.i, c.from, 0), api.OK)
	}
	has(t, j, 1, want...)
	stands(t, d, before)
	if d.Changes() != changes+12 {
		t.Error(d.Changes(), changes)
	}
}

// 7.2: whether a record is Good is told by its bytes: noughts over noughts leave it so, those over what somebody else put there make it so.
func TestBlankGood(t *testing.T) {
	d := disked(t, frames("a\x00\x00b", noughts(9)))
	j := opened(t, d, 100)
	told(t, "Blank", j.Blank(0, 1, 2), api.OK)
	told(t, "Blank", j.Blank(1, 0, 9), api.OK)
	has(t, j, 1, good(1, 12, "a\x00\x00b"), good(1, 28, noughts(9)))
	told(t, "Write", d.Write(1, 30, "xy"), api.OK)
	j = opened(t, d, 100)
	has(t, j, 1, good(1, 12, "a\x00\x00b"), api.Record{File: 1, At: 28, Body: "\x00\x00xy" + noughts(5)})
	told(t, "Blank", j.Blank(1, 2, 1), api.OK)
	has(t, j, 1, good(1, 12, "a\x00\x00b"), api.Record{File: 1, At: 28, Body: "\x00\x00\x00y" + noughts(5)})
	told(t, "Blank", j.Blank(1, 2, 2), api.OK)
	has(t, j, 1, good(1, 12, "a\x00\x00b"), good(1, 28, noughts(9)))
	has(t, opened(t, d, 100), 1, all(j)...)
}

// 7.2: records that were added are blanked as those that were read are, some of them twice; those behind stay.
func TestBlankAdded(t *testing.T) {
	d := disked(t)
	j := opened(t, d, 30)
	adds(t, j, "a", text(api.MaxBody))
	adds(t, j, "secret", "d")
	told(t, "Blank", j.Blank(2, 0, 2), api.OK)
	told(t, "Blank", j.Blank(2, 4, 2), api.OK)
	told(t, "Blank", j.Blank(1, 0, api.MaxBody), api.OK)
	want := []api.Record{good(1, 12, "a"), {File: 1, At: 25, Body: noughts(api.MaxBody)}, {File: 2, At: 12, Body: "\x00\x00cr\x00\x00"}, good(2, 30, "d")}
	has(t, j, 2, want...)
	has(t, opened(t, d, 30), 2, want...)
	adds(t, j, "e")
	told(t, "Keep", j.Keep(3), api.OK)
	has(t, j, 2, want[:3]...)
	told(t, "Blank of what is gone", j.Blank(3, 0, 0), api.ErrArg)
	has(t, opened(t, d, 30), 2, want[:3]...)
}

// 7.2: a file that somebody else took away, or cut: the disk's error, and the journal is as it was.
func TestBlankFileTakenAway(t *testing.T) {
	d := disked(t, frames("a"), frames("b"))
	j := opened(t, d, 5)
	told(t, "Cut", d.Cut(1, 12), api.OK)
	told(t, "Remove", d.Remove(2), api.OK)
	told(t, "Blank", j.Blank(0, 0, 1), api.ErrArg)
	told(t, "Blank", j.Blank(1, 0, 1), api.ErrNone)
	has(t, j, 2, good(1, 12, "a"), good(2, 12, "b"))
}

// 7.2: the power fails ahead of the Write, or of the Sync: the journal is as it was; on the disk each byte is as it was, or a nought, and Blank can be asked again.
func TestBlankStruck(t *testing.T) {
	body := text(300)
	for k := range 2 {
		for mask := range uint64(64) {
			d := disked(t, frames("a", body, "c"), frames("d"))
			j := opened(t, d, 50)
			records := all(j)
			d.Plan([]api.Strike{{At: d.Changes() + k, Mask: mask, Torn: int(mask) * 3 % 70}})
			told(t, "Blank", j.Blank(1, 10, 280), api.ErrDead)
			has(t, j, 2, records...)
			d.Up()
			left := opened(t, d, 50)
			half, _ := left.At(1)
			if k == 0 && half != records[1] {
				t.Error("nothing was written, and something is changed")
			}
			for i := range len(body) {
				if half.Body[i] != body[i] && (half.Body[i] != 0 || i < 10 || i >= 290) {
					t.Fatalf("mask %d: byte %d is %d", mask, i, half.Body[i])
				}
			}
			has(t, left, 2, records[0], half, records[2], records[3])
			for _, x := range []*Journal{left, j} {
				told(t, "Blank again", x.Blank(1, 10, 280), api.OK)
				has(t, x, 2, records[0], api.Record{File: 1, At: 25, Body: body[:10] + noughts(280) + body[290:]}, records[2], records[3])
			}
			has(t, opened(t, d, 50), 2, all(j)...)
		}
	}
}

// 7.2: the power fails while records are added, whatever it leaves: the journal is as it was, all that was added ahead is there, and what is found of the rest and is Good is what was being added.
func TestAddStruck(t *testing.T) {
	ahead := []string{"a", text(70), "c"}
	bodies := []string{text(100), "e", text(40), text(130)}
	for _, most := range []int{50, 1000} {
		for k := range 2 {
			for mask := range uint64(256) {
				d := disked(t)
				j := opened(t, d, most)
				adds(t, j, ahead...)
				old, files := all(j), j.Files()
				d.Plan([]api.Strike{{At: d.Changes() + k, Mask: mask, Torn: int(mask) * 5 % 70}})
				if at, e := j.Add(bodies...); at != 0 || e != api.ErrDead {
					t.Fatal(at, e)
				}
				has(t, j, files, old...)
				d.Up()
				left := opened(t, d, most)
				found := all(left)
				if len(found) < len(old) || !slices.Equal(found[:len(old)], old) {
					t.Fatalf("mask %d: %s", mask, shown(found...))
				}
				found = found[len(old):]
				if len(found) > len(bodies) || k == 0 && len(found) > 0 {
					t.Fatalf("mask %d: %s", mask, shown(found...))
				}
				for i, r := range found {
					if r.Good && r.Body != bodies[i] {
						t.Errorf("mask %d: %s", mask, shown(r))
					}
				}
				goesOn(t, left, old)
			}
		}
	}
}

// goesOn has a journal behind a loss of power keep its first records, take another one, and be found so.
func goesOn(t *testing.T, j *Journal, first []api.Record) {
	t.Helper()
	told(t, "Keep", j.Keep(len(first)), api.OK)
	adds(t, j, "more")
	j.disk.Crash(0, 0)
	j.disk.Up()
	k := opened(t, j.disk, j.most)
	has(t, k, j.Files(), all(j)...)
	if r, _ := k.At(len(first)); r.Body != "more" || !r.Good || !slices.Equal(all(k)[:len(first)], first) {
		t.Error(shown(all(k)...))
	}
}

// 7.2: a loss of power that keeps all, or nothing, of what was being added; the same journal goes on when the power comes again.
func TestAddStruckAllOrNothing(t *testing.T) {
	for _, most := range []int{5, 500} {
		d := disked(t)
		j := opened(t, d, most)
		adds(t, j, "a")
		d.Plan([]api.Strike{{At: d.Changes() + 1, Torn: -1}})
		told(t, "Add", second(j.Add("b", text(200))), api.ErrDead)
		d.Up()
		adds(t, j, "c")
		has(t, opened(t, d, most), j.Files(), all(j)...)

		d.Plan([]api.Strike{{At: d.Changes() + 1, Mask: math.MaxUint64}})
		told(t, "Add", second(j.Add("d", text(200))), api.ErrDead)
		d.Up()
		k := opened(t, d, most)
		if l := all(k); len(l) != 4 || l[2].Body != "d" || l[3].Body != text(200) || !l[2].Good || !l[3].Good {
			t.Error(shown(l...))
		}
	}
}

// R2: bodies that were handed in may be changed later, and are not changed here.
func TestOwn(t *testing.T) {
	j := opened(t, disked(t), 40)
	l := []string{"a", "b"}
	adds(t, j, l...)
	l[0], l[1] = "x", "y"
	has(t, j, 1, good(1, 12, "a"), good(1, 25, "b"))
	l = []string{"c", "d", text(api.MaxBody + 1)}
	told(t, "Add", second(j.Add(l...)), api.ErrLimit)
	told(t, "Blank", j.Blank(0, 0, 1), api.OK)
	if l[0] != "c" || l[1] != "d" || len(l) != 3 {
		t.Error(l)
	}
	r, _ := j.At(1)
	told(t, "Blank", j.Blank(1, 0, 1), api.OK)
	if r != good(1, 25, "b") {
		t.Error(r)
	}
}

// 7.1, 7.2: two journals of one disk each tell what they read, or did.
func TestTwoOfOneDisk(t *testing.T) {
	d := disked(t, frames("a"))
	j, k := opened(t, d, 100), opened(t, d, 100)
	adds(t, j, "b")
	has(t, k, 1, good(1, 12, "a"))
	adds(t, k, "c")
	has(t, k, 1, good(1, 12, "a"), good(1, 38, "c"))
	has(t, j, 1, good(1, 12, "a"), good(1, 25, "b"))
	has(t, opened(t, d, 100), 1, good(1, 12, "a"), good(1, 25, "b"), good(1, 38, "c"))
}

// 7.2, R1: a nil journal.
func TestNil(t *testing.T) {
	var j *Journal
	has(t, j, 0)
	for _, n := range []int{-1, 0, 1} {
		told(t, "Keep", j.Keep(n), api.ErrArg)
		told(t, "Blank", j.Blank(n, n, n), api.ErrArg)
	}
	for _, l := range [][]string{nil, {"a"}, {text(api.MaxBody + 1)}} {
		if at, e := j.Add(l...); at != 0 || e != api.ErrArg {
			t.Error(at, e)
		}
	}
}

// R1: a journal that Open did not make has no disk.
func TestZero(t *testing.T) {
	j := new(Journal)
	has(t, j, 0)
	told(t, "Keep", j.Keep(0), api.ErrDead)
	told(t, "Keep", j.Keep(1), api.ErrArg)
	told(t, "Blank", j.Blank(0, 0, 0), api.ErrArg)
	if at, e := j.Add("a"); at != 0 || e != api.ErrDead {
		t.Error(at, e)
	}
	has(t, j, 0)
}

// model is the chapter's words done plainly, over a disk of its own: records are looked for anew in the files' bytes.
type model struct {
	d       *disk.Disk
	most    int
	files   int
	records []api.Record
}

func (m *model) open() {
	m.files, m.records = 0, nil
	for n := 1; ; n++ {
		s, e := m.d.Read(n)
		if e != api.OK {
			return
		}
		m.files = n
		l, end := frame.Scan(s)
		for _, f := range l {
			m.records = append(m.records, api.Record{File: n, At: f.At, Body: f.Body, Good: f.Good})
		}
		if end < len(s) {
			return
		}
	}
}

// again is a record as the disk has it now.
func (m *model) again(r api.Record) api.Record {
	s, _ := m.d.Read(r.File)
	l, _ := frame.Scan(s[r.At-api.HeadBytes:])
	return api.Record{File: r.File, At: r.At, Body: l[0].Body, Good: l[0].Good}
}

func (m *model) add(bodies []string) (int, api.Errno) {
	for _, b := range bodies {
		if len(b) > 1<<16 {
			return 0, api.ErrLimit
		}
	}
	file := max(m.files, 1)
	if s, _ := m.d.Read(file); m.files > 0 && len(s) >= m.most {
		file++
	}
	at, e := m.d.Append(file, frames(bodies...))
	if e == api.OK {
		e = m.d.Sync(file)
	}
	if e != api.OK {
		return 0, e
	}
	m.files = file
	for _, b := range bodies {
		m.records = append(m.records, good(file, at+12, b))
		at += 12 + len(b)
	}
	return len(m.records) - len(bodies), api.OK
}

func (m *model) keep(n int) api.Errno {
	if n < 0 || n > len(m.records) {
		return api.ErrArg
	}
	file, long := 1, 0
	if n > 0 {
		r := m.records[n-1]
		file, long = r.File, r.At+len(r.Body)
	}
	for m.d.Dead() || len(m.d.Files()) > 0 && slices.Max(m.d.Files()) > file {
		if m.d.Dead() {
			return api.ErrDead
		}
		if e := m.d.Remove(slices.Max(m.d.Files())); e != api.OK {
			return e
		}
	}
	s, e := m.d.Read(file)
	if len(s) > long {
		e = m.d.Cut(file, long)
	}
	if e == api.ErrNone && n == 0 {
		file, e = 0, api.OK
	}
	if e == api.OK {
		m.files, m.records = file, m.records[:n:n]
	}
	return e
}

func (m *model) blank(i, from, n int) api.Errno {
	if i < 0 || i >= len(m.records) || from < 0 || n < 0 || from+n > len(m.records[i].Body) {
		return api.ErrArg
	}
	r := m.records[i]
	e := m.d.Write(r.File, r.At+from, noughts(n))
	if e == api.OK {
		e = m.d.Sync(r.File)
	}
	if e == api.OK {
		m.records[i] = m.again(r)
	}
	return e
}

// 7.1, 7.2: long runs of calls with losses of power and little room, held against the model: what is told, and each byte, change and strike of the disk.
func TestAgainstModel(t *testing.T) {
	for seed := range int64(150) {
		r := rand.New(rand.NewSource(seed))
		d := disked(t)
		m := &model{d: disked(t), most: 1 + r.Intn(200)}
		j := opened(t, d, m.most)
		for range 150 {
			one(t, r, j, m)
			if d.Dead() && r.Intn(3) > 0 {
				d.Up()
				m.d.Up()
				j = opened(t, d, m.most)
				m.open()
			}
			same(t, j, m)
			if t.Failed() {
				t.Fatal("seed", seed)
			}
		}
	}
}

func same(t *testing.T, j *Journal, m *model) {
	t.Helper()
	has(t, j, m.files, m.records...)
	if j.disk.Changes() != m.d.Changes() || j.disk.Loose() != m.d.Loose() || j.disk.Dead() != m.d.Dead() {
		t.Errorf("changes %d, loose %d, dead %v; want %d, %d, %v", j.disk.Changes(), j.disk.Loose(), j.disk.Dead(), m.d.Changes(), m.d.Loose(), m.d.Dead())
	}
	if !m.d.Dead() {
		stands(t, j.disk, contents(m.d))
	}
}

// one does a chosen call to both.
func one(t *testing.T, r *rand.Rand, j *Journal, m *model) {
	t.Helper()
	switch r.Intn(10) {
	case 0, 1, 2, 3:
		var l []string
		for range r.Intn(4) {
			l = append(l, text(r.Intn(1+r.Intn(150))))
		}
		if r.Intn(30) == 0 {
			l = append(l, text(api.MaxBody+r.Intn(2)))
		}
		at, e := j.Add(l...)
		if want, we := m.add(l); at != want || e != we {
			t.Errorf("Add: %d, %v; want %d, %v", at, e, want, we)
		}
	case 4:
		n := j.Len() + 2 - r.Intn(2+min(8, j.Len()+2))
		told(t, "Keep", j.Keep(n), m.keep(n))
	case 5, 6:
		i, from := r.Intn(j.Len()+2)-1, r.Intn(80)-1
		n := r.Intn(80) - 1
		told(t, "Blank", j.Blank(i, from, n), m.blank(i, from, n))
	case 7:
		l := []api.Strike{{At: m.d.Changes() + r.Intn(6), Mask: r.Uint64() & r.Uint64(), Torn: r.Intn(90) - 10}}
		j.disk.Plan(l)
		m.d.Plan(l)
	case 8:
		n := m.d.Used() + r.Intn(20)
		j.disk.Room(n)
		m.d.Room(n)
	case 9:
		mask, torn := r.Uint64(), r.Intn(70)
		if r.Intn(3) == 0 {
			j.disk.Crash(mask, torn)
			m.d.Crash(mask, torn)
		}
	}
}

// R4: the same calls in the same order answer the same.
func TestSame(t *testing.T) {
	run := func() []api.Record {
		d := disked(t)
		j := opened(t, d, 30)
		for i := range 50 {
			adds(t, j, text(i), "x")
		}
		told(t, "Keep", j.Keep(77), api.OK)
		told(t, "Blank", j.Blank(60, 1, 9), api.OK)
		return append(all(j), all(opened(t, d, 30))...)
	}
	want := run()
	for range 5 {
		if !slices.Equal(run(), want) {
			t.Fatal("another answer")
		}
	}
}

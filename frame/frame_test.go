package frame

import (
	"encoding/binary"
	"hash/crc32"
	"iter"
	"math"
	"math/rand"
	"slices"
	"strings"
	"testing"

	"parchment/api"
)

// pattern is n bytes in which all values come.
func pattern(n int) string {
	b := make([]byte, n)
	x := uint32(1)
	for i := range b {
		x = x*1664525 + 1013904223
		b[i] = byte(x >> 24)
	}
	return string(b)
}

func four(n uint32) string { return string(binary.LittleEndian.AppendUint32(nil, n)) }

// checked is the check that the library makes.
func checked(s string) uint32 { return crc32.ChecksumIEEE([]byte(s)) }

// saying is a head that says a length, with the right check of it, and the check of a body.
func saying(long uint32, body string) string {
	return four(long) + four(checked(four(long))) + four(checked(body))
}

// framed is the frame of a body, made without the package.
func framed(body string) string { return saying(uint32(len(body)), body) + body }

// joined is the frames of bodies behind one another, and what is to be found in them.
func joined(bodies ...string) (string, []api.Frame) {
	var b strings.Builder
	var l []api.Frame
	for _, body := range bodies {
		b.WriteString(framed(body))
		l = append(l, api.Frame{At: b.Len() - len(body), Body: body, Good: true})
	}
	return b.String(), l
}

// flipped is a text of which one bit is another.
func flipped(s string, bit int) string {
	b := []byte(s)
	b[bit/8] ^= 1 << (bit % 8)
	return string(b)
}

// finds has Scan and All find these frames in a text, the last of which ends at a place.
func finds(t *testing.T, what, s string, want []api.Frame, end int) {
	t.Helper()
	l, e := Scan(s)
	if !slices.Equal(l, want) || e != end {
		t.Errorf("%s: Scan tells %+v, %d; want %+v, %d", what, short(l), e, short(want), end)
	}
	if l := slices.Collect(All(s)); !slices.Equal(l, want) {
		t.Errorf("%s: All tells %+v, want %+v", what, short(l), short(want))
	}
}

// short is frames without long bodies.
func short(l []api.Frame) []api.Frame {
	l = slices.Clone(l)
	for i, f := range l {
		l[i].Body = f.Body[:min(len(f.Body), 40)]
	}
	return l
}

// 6.1: Check of texts whose checks are known.
func TestCheckKnown(t *testing.T) {
	for _, c := range []struct {
		s    string
		want uint32
	}{
		{"", 0},
		{"a", 0xe8b7be43},
		{"abc", 0x352441c2},
		{"123456789", 0xcbf43926},
		{"The quick brown fox jumps over the lazy dog", 0x414fa339},
		{"\x00", 0xd202ef8d},
		{"\x00\x00\x00\x00", 0x2144df1c},
		{"\xff\xff\xff\xff", 0xffffffff},
		{strings.Repeat("\x00", 32), 0x190a55ad},
		{strings.Repeat("\xff", 32), 0xff6cab0b},
	} {
		if got := Check(c.s); got != c.want {
			t.Errorf("Check(%x) = %08x, want %08x", c.s, got, c.want)
		}
	}
}

// 6.1: Check of each byte, alone and with others about it, and of texts of many lengths.
func TestCheckAgainstLibrary(t *testing.T) {
	var all []string
	for b := range 256 {
		s := string([]byte{byte(b)})
		all = append(all, s, s+"\x00", "\x00"+s, "ab"+s+"\xff"+s)
	}
	for n := range 300 {
		all = append(all, pattern(n), strings.Repeat("\x00", n), strings.Repeat("\xff", n))
	}
	all = append(all, pattern(api.MaxBody), pattern(api.MaxBody+1), pattern(1<<20+5))
	for _, s := range all {
		if got, want := Check(s), checked(s); got != want {
			t.Errorf("Check of %d bytes (%.20x ..) = %08x, want %08x", len(s), s, got, want)
		}
	}
}

// 6.1: Head, byte by byte: the length, its check, the body's check, the lowest byte of each first.
func TestHead(t *testing.T) {
	for _, c := range []struct{ body, want string }{
		{"", "\x00\x00\x00\x00\x1c\xdf\x44\x21\x00\x00\x00\x00"},
		{"a", "\x01\x00\x00\x00\x79\xb8\xf8\x99\x43\xbe\xb7\xe8"},
		{"123456789", "\x09\x00\x00\x00" + four(checked("\x09\x00\x00\x00")) + "\x26\x39\xf4\xcb"},
		{pattern(256), "\x00\x01\x00\x00" + four(checked("\x00\x01\x00\x00")) + four(checked(pattern(256)))},
		{pattern(api.MaxBody), "\x00\x00\x01\x00" + four(checked("\x00\x00\x01\x00")) + four(checked(pattern(api.MaxBody)))},
	} {
		if got := Head(c.body); got != c.want || len(got) != api.HeadBytes {
			t.Errorf("Head of %d bytes = %x, want %x", len(c.body), got, c.want)
		}
	}
	for n := range 600 {
		if got, want := Head(pattern(n)), saying(uint32(n), pattern(n)); got != want {
			t.Errorf("Head of %d bytes = %x, want %x", n, got, want)
		}
	}
}

// 6.1: Head names no error: that of a body that is too long tells of it as of any other.
func TestHeadTooLong(t *testing.T) {
	for _, n := range []int{api.MaxBody + 1, 1<<24 + 2} {
		if got, want := Head(pattern(n)), saying(uint32(n), pattern(n)); got != want {
			t.Errorf("Head of %d bytes = %x, want %x", n, got, want)
		}
	}
}

// 6.1: Make is the head, and the body behind it; a body may have none, and up to MaxBody bytes.
func TestMake(t *testing.T) {
	for _, n := range []int{0, 1, 2, 11, 12, 13, 255, 256, 1000, api.MaxBody - 1, api.MaxBody} {
		body := pattern(n)
		s, e := Make(body)
		if s != framed(body) || s != Head(body)+body || e != api.OK {
			t.Errorf("Make of %d bytes: %.20x .. (%d bytes), %v", n, s, len(s), e)
		}
	}
}

// 6.1, R1: Make of a body that is too long: ErrLimit, and nothing else.
func TestMakeTooLong(t *testing.T) {
	for _, n := range []int{api.MaxBody + 1, api.MaxBody + 2, 2 * api.MaxBody, 1 << 24} {
		if s, e := Make(pattern(n)); s != "" || e != api.ErrLimit {
			t.Errorf("Make of %d bytes: %d bytes, %v", n, len(s), e)
		}
	}
}

// 6.1: no bytes at all: no frame, and the last one ends at the front.
func TestNoBytes(t *testing.T) {
	finds(t, "nothing", "", nil, 0)
}

// 6.1: bytes that begin with no frame.
func TestNoFrames(t *testing.T) {
	for _, s := range []string{
		"tail", pattern(11), pattern(12), pattern(1000),
		strings.Repeat("\x00", 11), strings.Repeat("\x00", 12), strings.Repeat("\x00", 4096),
		strings.Repeat("\xff", 12), strings.Repeat("\xff", 4096),
		"x" + framed("one"), "\x00" + framed(""),
	} {
		finds(t, "no frame", s, nil, 0)
	}
}

// 6.1: several frames behind one another; the last one ends where the text does, or where bytes behind it begin.
func TestSeveral(t *testing.T) {
	for _, bodies := range [][]string{
		{""},
		{"one"},
		{"", ""},
		{"", "", "", ""},
		{"one", ""},
		{"", "one"},
		{"one", "two", "three", "", "one"},
		{pattern(100), pattern(64), pattern(1), pattern(3000)},
		{pattern(api.MaxBody)},
		{"a", pattern(api.MaxBody), "", pattern(api.MaxBody), "b"},
	} {
		s, want := joined(bodies...)
		finds(t, "frames alone", s, want, len(s))
		for _, tail := range []string{"t", "tail", "\x00", strings.Repeat("\x00", 12), strings.Repeat("\x00", 100), strings.Repeat("\xff", 30), pattern(500)} {
			finds(t, "frames with bytes behind them", s+tail, want, len(s))
		}
	}
}

// 6.1: what Make makes is found.
func TestMakeIsFound(t *testing.T) {
	var s string
	var want []api.Frame
	for _, n := range []int{0, 5, 12, api.MaxBody, 300} {
		f, e := Make(pattern(n))
		if e != api.OK {
			t.Fatal(n, e)
		}
		s += f
		want = append(want, api.Frame{At: len(s) - n, Body: pattern(n), Good: true})
	}
	finds(t, "what was made", s, want, len(s))
}

// 6.1: a body of bytes that are frames is just a body.
func TestFrameInFrame(t *testing.T) {
	inner, _ := joined("one", "", "two")
	s, want := joined(inner, framed(inner), "three")
	finds(t, "frames in frames", s, want, len(s))
}

// 6.1, example 1: a frame whose body was changed, in whichever bit, is found, and is not Good; those about it are.
func TestChangedBody(t *testing.T) {
	body := pattern(70)
	for bit := range 8 * len(body) {
		other := flipped(body, bit)
		s, want := joined("ahead", body, "", "behind")
		s = strings.Replace(s, body, other, 1)
		want[1].Body, want[1].Good = other, false
		finds(t, "a changed body", s, want, len(s))
		finds(t, "a changed body, with a tail", s+"tail", want, len(s))
	}
}

// 6.1: a body over which noughts were written, as its bytes are taken out, is found, and is not Good.
func TestBlankBody(t *testing.T) {
	s, want := joined("ahead", "secret", "behind")
	want[1].Body, want[1].Good = "\x00\x00\x00\x00\x00\x00", false
	finds(t, "a blank body", strings.Replace(s, "secret", want[1].Body, 1), want, len(s))
}

// 6.1: another check of the body: the frame is found, and is not Good, also one of no bytes.
func TestChangedBodyCheck(t *testing.T) {
	for _, body := range []string{"", "one", pattern(200)} {
		for bit := 8 * 8; bit < 8*api.HeadBytes; bit++ {
			s, want := joined("ahead", "", body, "behind")
			at := want[2].At - api.HeadBytes
			want[2].Good = false
			finds(t, "a changed check of the body", flipped(s, 8*at+bit), want, len(s))
		}
	}
}

// 6.1: another length, or another check of it: the frame is not there whole; nothing is found from there on.
func TestChangedLength(t *testing.T) {
	for _, body := range []string{"", "one", pattern(200)} {
		for bit := range 8 * 8 {
			s, want := joined("ahead", "", body, "behind")
			at := want[2].At - api.HeadBytes
			for _, tail := range []string{"", "tail", pattern(2 * api.MaxBody)} {
				finds(t, "a changed length", flipped(s, 8*at+bit)+tail, want[:2], at)
			}
		}
		s := framed(body)
		for bit := range 8 * 8 {
			finds(t, "a changed length, of the first one", flipped(s, bit)+framed("behind"), nil, 0)
		}
	}
}

// 6.1: a text that is cut, wherever: just the frames that are there whole are found.
func TestCut(t *testing.T) {
	s, all := joined("ahead", "", pattern(30), "b", pattern(14))
	for n := range len(s) + 1 {
		var want []api.Frame
		last := 0
		for _, f := range all {
			if f.At+len(f.Body) <= n {
				want = append(want, f)
				last = f.At + len(f.Body)
			}
		}
		finds(t, "a cut text", s[:n], want, last)
	}
}

// 6.1: a head that is cut, with other bytes in the place of the rest.
func TestCutHeadWithBytesBehind(t *testing.T) {
	s, want := joined("ahead", "too")
	for n := range 8 {
		for _, tail := range []string{strings.Repeat("x", 100), strings.Repeat("\xee", 100)} {
			finds(t, "a cut head", s+framed("gone")[:n]+tail, want, len(s))
		}
	}
}

// 6.1: a body of one byte less than its head says, and of just as many.
func TestCutBody(t *testing.T) {
	s, want := joined("ahead", "")
	for _, n := range []int{1, 2, 100, api.MaxBody} {
		f := framed(pattern(n))
		finds(t, "a cut body", s+f[:len(f)-1], want, len(s))
		finds(t, "no body", s+f[:api.HeadBytes], want, len(s))
		whole := append(slices.Clone(want), api.Frame{At: len(s) + api.HeadBytes, Body: pattern(n), Good: true})
		finds(t, "a whole body", s+f, whole, len(s)+len(f))
	}
}

// 6.1: a body that is cut takes of what stands behind it as many bytes as it says: it is found, and is not Good.
func TestCutBodyTakesWhatIsBehind(t *testing.T) {
	f := framed(pattern(20))
	s := f[:len(f)-3] + framed("behind")
	body := s[api.HeadBytes : api.HeadBytes+20]
	finds(t, "a cut body", s, []api.Frame{{At: api.HeadBytes, Body: body}}, len(f))
}

// 6.1: a length beyond MaxBody, its check right, all of its bytes there, and their check right.
func TestBeyondMaxBody(t *testing.T) {
	s, want := joined("ahead", "")
	for _, n := range []int{api.MaxBody + 1, api.MaxBody + 2, 2 * api.MaxBody, 1<<17 + 5, 1 << 20} {
		f := framed(pattern(n))
		finds(t, "a body that is too long", f, nil, 0)
		finds(t, "a body that is too long, behind others", s+f, want, len(s))
		finds(t, "a body that is too long, within others", s+f+framed("behind"), want, len(s))
	}
}

// 6.1: lengths that are beyond all bytes, or as an int of 32 bits below 0.
func TestGreatLengths(t *testing.T) {
	s, want := joined("ahead")
	for _, long := range []uint32{1 << 16, 1<<16 + 1, 1 << 24, math.MaxInt32, 1 << 31, 1<<31 + 3, math.MaxUint32 - 12, math.MaxUint32} {
		finds(t, "a great length", s+saying(long, "one")+"one"+framed("behind"), want, len(s))
	}
}

// 6.1: whoever stops going over frames stops: no further one is told.
func TestStop(t *testing.T) {
	s, want := joined("one", "", "two", "three")
	for stop := 1; stop <= len(want); stop++ {
		var seen []api.Frame
		for f := range All(s + "tail") {
			seen = append(seen, f)
			if len(seen) == stop {
				break
			}
		}
		if !slices.Equal(seen, want[:stop]) {
			t.Errorf("stopped behind %d: %v", stop, seen)
		}
		// A range panics if it is gone on with; called by hand it would just be called too often.
		calls := 0
		All(s)(func(api.Frame) bool {
			calls++
			return calls < stop
		})
		if calls != stop {
			t.Errorf("stopped behind %d: told %d", stop, calls)
		}
	}
}

// 6.1, R4: frames can be gone over again, from the front, also by two at once, and when the first one stopped.
func TestAgain(t *testing.T) {
	s, want := joined("one", "", "two")
	all := All(s)
	for range all {
		break
	}
	for range 2 {
		if l := slices.Collect(all); !slices.Equal(l, want) {
			t.Errorf("again: %v", l)
		}
	}
	a, stopA := iter.Pull(all)
	defer stopA()
	b, stopB := iter.Pull(all)
	defer stopB()
	for _, f := range want {
		if g, ok := a(); g != f || !ok {
			t.Errorf("the first: %v, %v", g, ok)
		}
		if g, ok := b(); g != f || !ok {
			t.Errorf("the second: %v, %v", g, ok)
		}
	}
}

// R2: what is done to Scan's list changes no later answer.
func TestScanIsTheCallersOwn(t *testing.T) {
	s, want := joined("one", "two")
	l, _ := Scan(s)
	l[0] = api.Frame{}
	_ = append(l[:1], api.Frame{At: 1})
	finds(t, "again", s, want, len(s))
}

// model finds frames by the document's words, one at a time from the front.
func model(s string) ([]api.Frame, int) {
	var l []api.Frame
	at := 0
	for rest := s; len(rest) >= 12; rest = s[at:] {
		long := uint64(binary.LittleEndian.Uint32([]byte(rest)))
		if checked(rest[:4]) != binary.LittleEndian.Uint32([]byte(rest[4:])) || long > 65536 || 12+long > uint64(len(rest)) {
			break
		}
		body := rest[12 : 12+long]
		good := checked(body) == binary.LittleEndian.Uint32([]byte(rest[8:]))
		l = append(l, api.Frame{At: at + 12, Body: body, Good: good})
		at += 12 + int(long)
	}
	return l, at
}

// 6.1: frames to which all kinds of things were done are found as the document's words say.
func TestAgainstModel(t *testing.T) {
	r := rand.New(rand.NewSource(6))
	for range 20000 {
		var b []byte
		for range r.Intn(6) {
			b = append(b, framed(pattern(r.Intn(40)))...)
		}
		for range r.Intn(3) {
			if len(b) == 0 {
				break
			}
			at := r.Intn(len(b))
			switch r.Intn(5) {
			case 0:
				b[at] ^= 1 << r.Intn(8)
			case 1:
				b = b[:at]
			case 2:
				b = slices.Delete(b, at, at+1)
			case 3:
				b = slices.Insert(b, at, byte(r.Intn(256)))
			case 4:
				clear(b[at:])
			}
		}
		s := string(b)
		want, end := model(s)
		finds(t, "at random", s, want, end)
	}
}

func BenchmarkCheck(b *testing.B) {
	s := pattern(api.MaxBody)
	b.SetBytes(int64(len(s)))
	sum := uint32(0)
	for range b.N {
		sum ^= Check(s)
	}
	b.Logf("%08x", sum) // what nobody asks for might not be worked out
}

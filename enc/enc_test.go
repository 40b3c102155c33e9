package enc

import (
	"encoding/binary"
	"math"
	"strings"
	"testing"

	"parchment/api"
)

// full is n bytes of a number that goes on behind each of them.
func full(n int) string { return strings.Repeat("\xff", n) }

// edges is the numbers at which a byte more is wanted, with their neighbours, and both ends.
func edges() []uint64 {
	out := []uint64{0, 1, 300, math.MaxUint64, math.MaxUint64 - 1}
	for bits := 7; bits < 64; bits += 7 {
		out = append(out, 1<<bits-1, 1<<bits, 1<<bits+1)
	}
	return out
}

// signedEdges is the edges of numbers that may be below 0.
func signedEdges() []int64 {
	out := []int64{math.MinInt64, math.MinInt64 + 1, math.MaxInt64, math.MaxInt64 - 1, -1}
	for _, n := range edges() {
		half := int64(n / 2)
		out = append(out, half, -half, -half-1)
	}
	return out
}

// stopped tells of a cursor that has an error, or is not where it must be, or still takes something.
func stopped(t *testing.T, what string, c *Cursor, e api.Errno, off int) {
	t.Helper()
	for range 2 {
		if c.Err() != e || c.Off() != off {
			t.Errorf("%s: error %d at %d, want %d at %d", what, c.Err(), c.Off(), e, off)
			return
		}
		if c.Uint() != 0 || c.Int() != 0 || c.Count(math.MaxInt) != 0 || c.Count(-1) != 0 {
			t.Errorf("%s: a number behind the error", what)
		}
		if c.Bytes(1) != "" || c.Bytes(0) != "" || c.Bytes(-1) != "" || c.Text(api.MaxText) != "" || c.Bool() {
			t.Errorf("%s: bytes behind the error", what)
		}
		c.Fail(api.ErrDead)
		c.Fail(api.OK)
		if got := c.End(); got != e {
			t.Errorf("%s: End() = %d, want %d", what, got, e)
		}
	}
}

// Promise 2.1: Uint.
func TestPutUint(t *testing.T) {
	for n, want := range map[uint64]string{
		0:              "\x00",
		1:              "\x01",
		127:            "\x7f",
		128:            "\x80\x01",
		300:            "\xac\x02",
		16383:          "\xff\x7f",
		16384:          "\x80\x80\x01",
		1<<63 - 1:      full(8) + "\x7f",
		1 << 63:        strings.Repeat("\x80", 9) + "\x01",
		math.MaxUint64: full(9) + "\x01",
	} {
		if got := Uint(n); got != want {
			t.Errorf("Uint(%d) = %x, want %x", n, got, want)
		}
	}
	for _, n := range edges() {
		if got, want := Uint(n), string(binary.AppendUvarint(nil, n)); got != want {
			t.Errorf("Uint(%d) = %x, want %x", n, got, want)
		}
	}
}

// Promise 2.1: Int.
func TestPutInt(t *testing.T) {
	for n, want := range map[int64]string{
		0:             "\x00",
		-1:            "\x01",
		1:             "\x02",
		-2:            "\x03",
		63:            "\x7e",
		-64:           "\x7f",
		64:            "\x80\x01",
		-65:           "\x81\x01",
		math.MaxInt64: "\xfe" + full(8) + "\x01",
		math.MinInt64: full(9) + "\x01",
	} {
		if got := Int(n); got != want {
			t.Errorf("Int(%d) = %x, want %x", n, got, want)
		}
	}
	for _, n := range signedEdges() {
		if got, want := Int(n), string(binary.AppendVarint(nil, n)); got != want {
			t.Errorf("Int(%d) = %x, want %x", n, got, want)
		}
	}
}

// Promise 2.1: Text.
func TestPutText(t *testing.T) {
	for _, s := range []string{"", "a", "ab", "\x00\xff", strings.Repeat("x", 127), strings.Repeat("x", 128)} {
		if got, want := Text(s), Uint(uint64(len(s)))+s; got != want {
			t.Errorf("Text of %d bytes = %x, want %x", len(s), got, want)
		}
	}
	if got := Text("ab"); got != "\x02ab" {
		t.Errorf("Text(ab) = %x", got)
	}
	greatest := strings.Repeat("y", api.MaxText)
	if Text(greatest) != "\x80\x80\x40"+greatest {
		t.Error("Text of the greatest length")
	}
	if Text(greatest+"y") != "\x81\x80\x40"+greatest+"y" {
		t.Error("Text of more than the greatest length")
	}
}

// Promise 2.1: Bool.
func TestPutBool(t *testing.T) {
	if Bool(false) != "\x00" || Bool(true) != "\x01" {
		t.Errorf("Bool: %x, %x", Bool(false), Bool(true))
	}
}

// Promise 2.2: a cursor goes through bytes, one thing behind the other.
func TestCursorGoesThrough(t *testing.T) {
	c := At("\xac\x02" + "\x01" + "\x05" + "xyz" + "\x02ab" + "\x01" + "\x00")
	for _, step := range []struct {
		what string
		take func() bool
		off  int
	}{
		{"nothing", func() bool { return true }, 0},
		{"Uint", func() bool { return c.Uint() == 300 }, 2},
		{"Int", func() bool { return c.Int() == -1 }, 3},
		{"Count", func() bool { return c.Count(5) == 5 }, 4},
		{"Bytes", func() bool { return c.Bytes(3) == "xyz" }, 7},
		{"Text", func() bool { return c.Text(2) == "ab" }, 10},
		{"Bool", func() bool { return c.Bool() }, 11},
		{"Bool", func() bool { return !c.Bool() }, 12},
		{"Bytes", func() bool { return c.Bytes(0) == "" }, 12},
	} {
		if !step.take() || c.Off() != step.off || c.Err() != api.OK {
			t.Errorf("%s: error %d at %d, want none at %d", step.what, c.Err(), c.Off(), step.off)
		}
	}
	if e := c.End(); e != api.OK {
		t.Errorf("End() = %d", e)
	}
}

// wrongNumbers is bytes that begin with no number, and the error of each.
func wrongNumbers() map[string]api.Errno {
	return map[string]api.Errno{
		"":                           api.ErrShort,
		"\x80":                       api.ErrShort,
		"\xff":                       api.ErrShort,
		"\x80\x80":                   api.ErrShort,
		full(9):                      api.ErrShort,
		strings.Repeat("\x80", 9):    api.ErrShort,
		"\x80\x00":                   api.ErrForm,
		"\xff\x00":                   api.ErrForm,
		"\x81\x80\x00":               api.ErrForm,
		"\x80\x00\x01":               api.ErrForm,
		full(8) + "\x00":             api.ErrForm,
		full(9) + "\x00":             api.ErrForm,
		full(9) + "\x02":             api.ErrForm,
		full(9) + "\x7f":             api.ErrForm,
		full(9) + "\x80":             api.ErrForm, // as soon as the tenth byte may not be, not as soon as the bytes end
		full(9) + "\x81":             api.ErrForm,
		full(10):                     api.ErrForm,
		full(10) + "\x01":            api.ErrForm,
		full(20):                     api.ErrForm,
		full(9) + "\x81" + "\x00":    api.ErrForm,
		strings.Repeat("\x80", 4000): api.ErrForm,
	}
}

// Promise 2.2: the errors of a number, whichever call takes it; nothing is taken with them.
func TestWrongNumbers(t *testing.T) {
	for s, e := range wrongNumbers() {
		for name, take := range map[string]func(c *Cursor) bool{
			"Uint":      func(c *Cursor) bool { return c.Uint() == 0 },
			"Int":       func(c *Cursor) bool { return c.Int() == 0 },
			"Count":     func(c *Cursor) bool { return c.Count(math.MaxInt) == 0 },
			"Count(0)":  func(c *Cursor) bool { return c.Count(0) == 0 },
			"Count(-1)": func(c *Cursor) bool { return c.Count(-1) == 0 },
			"Text":      func(c *Cursor) bool { return c.Text(api.MaxText) == "" },
			"Text(-1)":  func(c *Cursor) bool { return c.Text(-1) == "" },
		} {
			c := At("\x01\x07" + s)
			if !c.Bool() || c.Uint() != 7 {
				t.Fatal("the bytes ahead")
			}
			if !take(c) {
				t.Errorf("%s of %x: not the zero value", name, s)
			}
			stopped(t, name, c, e, 2)
		}
	}
}

// Promise 2.2: Uint takes no byte behind its number, and ten bytes if the tenth is 1.
func TestUintTakesItsBytes(t *testing.T) {
	for _, n := range edges() {
		s := Uint(n)
		for _, behind := range []string{"", "\x00", "\xff", full(20)} {
			c := At(s + behind)
			if got := c.Uint(); got != n || c.Off() != len(s) || c.Err() != api.OK {
				t.Errorf("%d is taken as %d, error %d at %d", n, got, c.Err(), c.Off())
			}
		}
		for i := range len(s) {
			c := At(s[:i])
			if got := c.Uint(); got != 0 {
				t.Errorf("%x is taken as %d", s[:i], got)
			}
			stopped(t, "Uint that ends too early", c, api.ErrShort, 0)
		}
	}
}

// Promise 2.2: Count.
func TestCount(t *testing.T) {
	for _, x := range []struct {
		n    uint64
		most int
		e    api.Errno
	}{
		{0, 0, api.OK},
		{1, 0, api.ErrLimit},
		{0, -1, api.ErrLimit},
		{0, math.MinInt, api.ErrLimit},
		{7, -1, api.ErrLimit},
		{math.MaxUint64, -1, api.ErrLimit},
		{300, 299, api.ErrLimit},
		{300, 300, api.OK},
		{300, 301, api.OK},
		{api.MaxText + 1, api.MaxText + 1, api.OK},
		{math.MaxInt64, math.MaxInt, api.OK},
		{math.MaxInt64 + 1, math.MaxInt, api.ErrLimit},
		{math.MaxUint64, math.MaxInt, api.ErrLimit},
	} {
		s := Uint(x.n)
		c := At(s + "\x09")
		got := c.Count(x.most)
		if x.e != api.OK {
			if got != 0 {
				t.Errorf("Count(%d) of %d = %d with an error", x.most, x.n, got)
			}
			stopped(t, "Count", c, x.e, 0)
		} else if uint64(got) != x.n || c.Err() != api.OK || c.Off() != len(s) || c.Uint() != 9 {
			t.Errorf("Count(%d) of %d = %d, error %d at %d", x.most, x.n, got, c.Err(), c.Off())
		}
	}
}

// Promise 2.2: Bytes.
func TestBytes(t *testing.T) {
	c := At("abc")
	if c.Bytes(0) != "" || c.Off() != 0 || c.Bytes(2) != "ab" || c.Off() != 2 || c.Bytes(1) != "c" || c.Bytes(0) != "" || c.End() != api.OK {
		t.Errorf("error %d at %d", c.Err(), c.Off())
	}
	for n, e := range map[int]api.Errno{
		-1:          api.ErrArg,
		math.MinInt: api.ErrArg,
		3:           api.ErrShort,
		math.MaxInt: api.ErrShort,
	} {
		c := At("abc")
		c.Bytes(1)
		if got := c.Bytes(n); got != "" {
			t.Errorf("Bytes(%d) = %q", n, got)
		}
		stopped(t, "Bytes", c, e, 1)
	}
	c = At("")
	if c.Bytes(-1) != "" {
		t.Error("Bytes(-1) of no bytes")
	}
	stopped(t, "Bytes(-1) of no bytes", c, api.ErrArg, 0)
}

// Promise 2.2: Text.
func TestText(t *testing.T) {
	greatest := strings.Repeat("z", api.MaxText)
	for _, x := range []struct {
		what string
		s    string
		most int
		want string
		off  int
		e    api.Errno
	}{
		{"empty", "\x00", 0, "", 1, api.OK},
		{"at its most", "\x02abc", 2, "ab", 3, api.OK},
		{"below its most", "\x02abc", 9, "ab", 3, api.OK},
		{"above its most", "\x02abc", 1, "", 0, api.ErrLimit},
		{"above its most, and too short", "\x02", 1, "", 0, api.ErrLimit},
		{"too short", "\x05ab", 9, "", 0, api.ErrShort},
		{"one too short", "\x03ab", 3, "", 0, api.ErrShort},
		{"no byte of it", "\x01", 9, "", 0, api.ErrShort},
		{"most below 0", "\x00", -1, "", 0, api.ErrLimit},
		{"most far below 0", "\x02ab", math.MinInt, "", 0, api.ErrLimit},
		{"no bytes at all", "", 9, "", 0, api.ErrShort},
		{"the greatest", Text(greatest), api.MaxText, greatest, api.MaxText + 3, api.OK},
		{"the greatest, most above it", Text(greatest), math.MaxInt, greatest, api.MaxText + 3, api.OK},
		{"the greatest, most below it", Text(greatest), api.MaxText - 1, "", 0, api.ErrLimit},
		{"longer", Text(greatest + "z"), api.MaxText, "", 0, api.ErrLimit},
		{"longer, most above it", Text(greatest + "z"), api.MaxText + 1, "", 0, api.ErrLimit},
		{"longer, most far above it", Text(greatest + "z"), math.MaxInt, "", 0, api.ErrLimit},
		{"very long, and too short", Uint(math.MaxUint64), math.MaxInt, "", 0, api.ErrLimit},
	} {
		c := At(x.s)
		if got := c.Text(x.most); got != x.want {
			t.Errorf("%s: a text of %d bytes, want %d", x.what, len(got), len(x.want))
		}
		if x.e != api.OK {
			stopped(t, x.what, c, x.e, x.off)
		} else if c.Err() != api.OK || c.Off() != x.off {
			t.Errorf("%s: error %d at %d, want none at %d", x.what, c.Err(), c.Off(), x.off)
		}
	}
	c := At("\x01" + "\x05ab")
	c.Bool()
	c.Text(9)
	stopped(t, "too short behind others", c, api.ErrShort, 1)
}

// Promise 2.2: Bool.
func TestBool(t *testing.T) {
	c := At("\x01\x00\x01")
	if !c.Bool() || c.Bool() || !c.Bool() || c.End() != api.OK || c.Off() != 3 {
		t.Errorf("error %d at %d", c.Err(), c.Off())
	}
	for b := 2; b < 256; b++ {
		c := At("\x01" + string([]byte{byte(b), 1}))
		if !c.Bool() || c.Bool() {
			t.Errorf("a byte %d is taken for yes", b)
		}
		stopped(t, "Bool", c, api.ErrForm, 1)
	}
	c = At("\x01")
	if !c.Bool() || c.Bool() {
		t.Error("no byte is taken for yes")
	}
	stopped(t, "Bool that ends too early", c, api.ErrShort, 1)
}

// Promise 2.2: Fail.
func TestFail(t *testing.T) {
	c := At("\x07\x07")
	c.Uint()
	c.Fail(api.OK)
	if c.Err() != api.OK || c.Uint() != 7 || c.End() != api.OK {
		t.Errorf("OK is taken for an error: %d", c.Err())
	}
	c = At("\x07\x07")
	c.Uint()
	c.Fail(api.ErrName)
	stopped(t, "Fail", c, api.ErrName, 1)
	c = At("\x80\x00")
	c.Uint()
	c.Fail(api.ErrName)
	stopped(t, "Fail behind an error", c, api.ErrForm, 0)
}

// Promise 2.2: End.
func TestEnd(t *testing.T) {
	c := At("")
	if c.End() != api.OK || c.Err() != api.OK || c.Off() != 0 {
		t.Error("no bytes are left of none")
	}
	if c.Uint() != 0 {
		t.Error("a number of no bytes")
	}
	stopped(t, "behind End", c, api.ErrShort, 0)

	c = At("\x07\x08")
	c.Uint()
	if c.End() != api.ErrLong {
		t.Errorf("a byte is left: %d", c.Err())
	}
	stopped(t, "End", c, api.ErrLong, 1)

	c = At("\x02")
	c.Bool()
	if c.End() != api.ErrForm {
		t.Errorf("bytes are left behind an error: %d", c.Err())
	}
	stopped(t, "End behind an error", c, api.ErrForm, 0)
}

// Promise 2.2: a nil cursor.
func TestNilCursor(t *testing.T) {
	var c *Cursor
	stopped(t, "nil", c, api.ErrArg, 0)
	stopped(t, "nil again", c, api.ErrArg, 0)
}

// Promise 2.2: two cursors of the same bytes know nothing of each other.
func TestTwoCursors(t *testing.T) {
	a, b := At("\x07\x08"), At("\x07\x08")
	a.Uint()
	a.Fail(api.ErrDead)
	if b.Off() != 0 || b.Uint() != 7 || b.Uint() != 8 || b.End() != api.OK {
		t.Errorf("error %d at %d", b.Err(), b.Off())
	}
}

// Promise 2.3: what was put is taken again.
func TestPutAndTaken(t *testing.T) {
	var all strings.Builder
	for _, n := range edges() {
		all.WriteString(Uint(n))
	}
	for _, n := range signedEdges() {
		all.WriteString(Int(n))
	}
	texts := []string{"", "a", "\x00", "\x80\x00", strings.Repeat("q", 127), strings.Repeat("q", 128), strings.Repeat("q", api.MaxText)}
	for _, s := range texts {
		all.WriteString(Text(s))
	}
	all.WriteString(Bool(true) + Bool(false))

	c := At(all.String())
	for _, n := range edges() {
		if got := c.Uint(); got != n {
			t.Errorf("%d is taken as %d", n, got)
		}
	}
	for _, n := range signedEdges() {
		if got := c.Int(); got != n {
			t.Errorf("%d is taken as %d", n, got)
		}
	}
	for _, s := range texts {
		if c.Text(len(s)) != s {
			t.Errorf("a text of %d bytes is taken as another one", len(s))
		}
	}
	if !c.Bool() || c.Bool() || c.End() != api.OK {
		t.Errorf("error %d at %d", c.Err(), c.Off())
	}
}

// sameAgain takes bytes in each way, and puts what was taken.
func sameAgain(t *testing.T, s string) {
	t.Helper()
	for name, again := range map[string]func(c *Cursor) string{
		"Uint":  func(c *Cursor) string { return Uint(c.Uint()) },
		"Int":   func(c *Cursor) string { return Int(c.Int()) },
		"Count": func(c *Cursor) string { return Uint(uint64(c.Count(math.MaxInt))) },
		"Text":  func(c *Cursor) string { return Text(c.Text(api.MaxText)) },
		"Bool":  func(c *Cursor) string { return Bool(c.Bool()) },
		"Bytes": func(c *Cursor) string { return c.Bytes(2) },
	} {
		c := At(s)
		put := again(c)
		if c.Err() == api.OK && put != s[:c.Off()] {
			t.Errorf("%s of %x took %x, which is put as %x", name, s, s[:c.Off()], put)
		}
		if c.Err() != api.OK && c.Off() != 0 {
			t.Errorf("%s of %x took %d bytes with error %d", name, s, c.Off(), c.Err())
		}
	}
}

// Promise 2.3: of any bytes that are taken the same come, when it is put.
func TestTakenAndPut(t *testing.T) {
	sameAgain(t, "")
	for a := range 256 {
		sameAgain(t, string([]byte{byte(a)}))
		for b := range 256 {
			sameAgain(t, string([]byte{byte(a), byte(b)}))
		}
	}
	for many := 2; many <= 11; many++ {
		for last := range 256 {
			sameAgain(t, full(many)+string([]byte{byte(last)}))
			sameAgain(t, strings.Repeat("\x80", many)+string([]byte{byte(last), 5}))
		}
	}
}

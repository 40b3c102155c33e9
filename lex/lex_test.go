package lex

import (
	"encoding/hex"
	"fmt"
	"math/big"
	"math/rand"
	"regexp"
	"slices"
	"strings"
	"testing"

	"parchment/api"
	"parchment/value"
)

// allKeys is written out anew, as the chapter has it.
const allKeys = "AND BY COUNT CREATE DELETE DESC FALSE FROM HISTORY INDEX INSERT INTO IS LIMIT NOT NULL ON OR ORDER SELECT SET TABLE TRUE UPDATE VALUE WHERE"

// allSigns likewise.
const allSigns = "<> <= >= = < > + - * ( ) { } [ ] , : ."

func name(s string, at int) api.Word { return api.Word{Kind: 1, S: s, At: at} }
func key(s string, at int) api.Word  { return api.Word{Kind: 2, S: s, At: at} }
func num(s string, at int) api.Word  { return api.Word{Kind: 3, S: s, At: at} }
func str(s string, at int) api.Word  { return api.Word{Kind: 4, S: s, At: at} }
func hexa(s string, at int) api.Word { return api.Word{Kind: 5, S: s, At: at} }
func sign(s string, at int) api.Word { return api.Word{Kind: 6, S: s, At: at} }

// cut holds a statement's words, without the end, against those that it must have.
func cut(t *testing.T, s string, want ...api.Word) {
	t.Helper()
	want = append(slices.Clone(want), api.Word{Kind: 0, S: "", At: len(s)})
	l, at, e := Words(s)
	if e != api.OK || at != 0 || !slices.Equal(l, want) {
		t.Errorf("Words(%q) = %v, %d, %d, want %v, 0, 0", s, l, at, e, want)
	}
}

// refused asks that a statement has a word that may not be, which begins at a place.
func refused(t *testing.T, s string, place int) {
	t.Helper()
	l, at, e := Words(s)
	if e != 110 || at != place || len(l) != 0 {
		t.Errorf("Words(%q) = %v, %d, %d, want none, %d, 110", s, l, at, e, place)
	}
}

// refusedAnywhere asks the same of a word alone, behind blanks, behind another word, ahead of words that may be, and ahead of another one that may not.
func refusedAnywhere(t *testing.T, word string) {
	t.Helper()
	refused(t, word, 0)
	refused(t, " \t\n "+word, 4)
	refused(t, "(a) "+word, 4)
	refused(t, "("+word, 1)
	refused(t, word+" , a", 0)
	refused(t, word+" ?", 0)
	refused(t, "= ? "+word, 2)
}

// Promise 11.1: ordinary statements, the chapter's example among them.
func TestStatements(t *testing.T) {
	cut(t, "SELECT * FROM t WHERE a >= -3",
		key("SELECT", 0), sign("*", 7), key("FROM", 9), name("t", 14), key("WHERE", 16),
		name("a", 22), sign(">=", 24), sign("-", 27), num("3", 28))
	cut(t, "INSERT INTO t VALUE {a: [1, x'0aff'], b_2: 'it''s'}",
		key("INSERT", 0), key("INTO", 7), name("t", 12), key("VALUE", 14), sign("{", 20),
		name("a", 21), sign(":", 22), sign("[", 24), num("1", 25), sign(",", 26), hexa("\x0a\xff", 28), sign("]", 35), sign(",", 36),
		name("b_2", 38), sign(":", 41), str("it's", 43), sign("}", 50))
	cut(t, "SELECT COUNT FROM HISTORY (t)\n\tWHERE NOT a.b <> NULL ORDER BY c DESC LIMIT 10",
		key("SELECT", 0), key("COUNT", 7), key("FROM", 13), key("HISTORY", 18), sign("(", 26), name("t", 27), sign(")", 28),
		key("WHERE", 31), key("NOT", 37), name("a", 41), sign(".", 42), name("b", 43), sign("<>", 45), key("NULL", 48),
		key("ORDER", 53), key("BY", 59), name("c", 62), key("DESC", 64), key("LIMIT", 69), num("10", 75))
}

// Promise 11.1: no bytes, and blanks alone: the end stands at the end of the statement.
func TestNothing(t *testing.T) {
	for _, s := range []string{"", " ", "\t", "\n", " \n\t  \t\n"} {
		cut(t, s)
	}
	cut(t, "a \n\t ", name("a", 0))
}

// Promise 11.1: Key tells the language's own words, in great letters, and none beside them.
func TestKey(t *testing.T) {
	all := strings.Fields(allKeys)
	if len(all) != 26 {
		t.Fatal(len(all), "keys")
	}
	for _, k := range all {
		if !Key(k) {
			t.Errorf("Key(%q) is false", k)
		}
		small := strings.ToLower(k)
		mixed := k[:1] + small[1:]
		last := k[:len(k)-1] + small[len(k)-1:]
		for _, s := range []string{small, mixed, last, k + " ", " " + k, k + "\x00", k + k, k + "_", "_" + k, k[1:], k[:len(k)-1]} {
			if Key(s) != slices.Contains(all, s) {
				t.Errorf("Key(%q) is %v", s, Key(s))
			}
		}
	}
	for _, s := range []string{"", " ", "x", "VALUES", "GROUP", "DROP", "ASC", "LIKE", "IN", "AS", "BEGIN", "=", "'NULL'", "0", allKeys} {
		if Key(s) {
			t.Errorf("Key(%q) is true", s)
		}
	}
}

// Promise 11.1: of all texts of up to four great letters only the keys are keys.
func TestKeyOfAll(t *testing.T) {
	all := strings.Fields(allKeys)
	found := 0
	var walk func(s string)
	walk = func(s string) {
		if Key(s) {
			found++
			if !slices.Contains(all, s) {
				t.Errorf("Key(%q) is true", s)
			}
		}
		if len(s) == 4 {
			return
		}
		for c := byte('A'); c <= 'Z'; c++ {
			walk(s + string(c))
		}
	}
	walk("")
	short := 0
	for _, k := range all {
		if len(k) <= 4 {
			short++
		}
	}
	if found != short {
		t.Errorf("%d keys, want %d", found, short)
	}
}

// Promise 11.1: keys as words; the same letters written small, or with more beside them, are names.
func TestKeyWords(t *testing.T) {
	for _, k := range strings.Fields(allKeys) {
		cut(t, k, key(k, 0))
		cut(t, " "+k+" ", key(k, 1))
		cut(t, "("+k+")", sign("(", 0), key(k, 1), sign(")", 1+len(k)))
		cut(t, strings.ToLower(k), name(strings.ToLower(k), 0))
		for _, s := range []string{k + "_", "_" + k, k + "1", k + "x", "x" + k, k[:1] + strings.ToLower(k[1:])} {
			cut(t, s, name(s, 0))
		}
		cut(t, "1"+k, num("1", 0), key(k, 1))
		cut(t, "x "+k+"'a'", name("x", 0), key(k, 2), str("a", 2+len(k)))
	}
	cut(t, "ORDERBY", name("ORDERBY", 0))
	cut(t, "ORDER BY", key("ORDER", 0), key("BY", 6))
}

// Promise 11.1: names have letters, digits and _, no digit first, and at most MaxName bytes.
func TestNames(t *testing.T) {
	for _, s := range []string{"a", "z", "A", "Z", "_", "__", "_0", "a0", "a9z", "azAZ09_", "x", "xx", "X", "x0", "_x", "select_", "e1"} {
		cut(t, s, name(s, 0))
	}
	for _, c := range []string{"a", "Z", "_"} {
		most := strings.Repeat(c, api.MaxName)
		cut(t, most, name(most, 0))
		cut(t, " "+most+".", name(most, 1), sign(".", 17))
		refusedAnywhere(t, most+c)
		refusedAnywhere(t, most+"0")
		refusedAnywhere(t, strings.Repeat(c, 1900))
	}
	most := "a" + strings.Repeat("0", api.MaxName-1)
	cut(t, most, name(most, 0))
	refusedAnywhere(t, most+"0")
	// x is of the name, where more than it stands ahead of the quote.
	cut(t, "xx'00'", name("xx", 0), str("00", 2))
	cut(t, "ax'00'", name("ax", 0), str("00", 2))
	cut(t, "x_'00'", name("x_", 0), str("00", 2))
}

// Promise 11.1: a name that begins with a digit is a number and a name.
func TestDigitFirst(t *testing.T) {
	cut(t, "1a", num("1", 0), name("a", 1))
	cut(t, "0x00", num("0", 0), name("x00", 1))
	cut(t, "12_3", num("12", 0), name("_3", 2))
	cut(t, "9SELECT", num("9", 0), key("SELECT", 1))
	cut(t, "1x'00'", num("1", 0), hexa("\x00", 1))
	most := strings.Repeat("a", api.MaxName)
	cut(t, "1"+most, num("1", 0), name(most, 1))
	refused(t, "1"+most+"a", 1)
	refused(t, "01a", 0)
}

// Promise 11.1: numbers up to the greatest of 64 bits, as they are written.
func TestNumbers(t *testing.T) {
	for _, s := range []string{"0", "1", "9", "10", "100", "90", "2147483648", "999999999999999999", "9223372036854775806", "9223372036854775807"} {
		cut(t, s, num(s, 0))
		cut(t, "-"+s+" ", sign("-", 0), num(s, 1))
	}
	for _, s := range []string{"9223372036854775808", "9223372036854775810", "9300000000000000000", "10000000000000000000", "18446744073709551615", "18446744073709551616", "18446744073709551617", "99999999999999999999", strings.Repeat("9", 1900)} {
		refusedAnywhere(t, s)
		refused(t, "-"+s, 1)
	}
	for _, s := range []string{"00", "01", "09", "000", "007", "010", "00000000000000000000", "09223372036854775807", strings.Repeat("0", 1900)} {
		refusedAnywhere(t, s)
	}
	cut(t, "0 0", num("0", 0), num("0", 2))
	cut(t, "1.5", num("1", 0), sign(".", 1), num("5", 2))
	cut(t, "1.0", num("1", 0), sign(".", 1), num("0", 2))
	refused(t, "1.05", 2)
	cut(t, "+1e3", sign("+", 0), num("1", 1), name("e3", 2))
	cut(t, "1_000", num("1", 0), name("_000", 1))
}

// Promise 11.1: texts between quotes; two quotes within one are one.
func TestTexts(t *testing.T) {
	for s, says := range map[string]string{
		"''":                    "",
		"'a'":                   "a",
		"' '":                   " ",
		"'  a b '":              "  a b ",
		"'it''s'":               "it's",
		"''''":                  "'",
		"''''''":                "''",
		"'''a'":                 "'a",
		"'a'''":                 "a'",
		"'''a'''":               "'a'",
		"'a''''b'":              "a''b",
		"'a''b''c'":             "a'b'c",
		"'SELECT ? x''00'' 01'": "SELECT ? x'00' 01",
		"'\"\\n\\'":             "\"\\n\\",
		"'\n\t\r\x00'":          "\n\t\r\x00",
		"'\xff\x80 é 世'":        "\xff\x80 é 世",
	} {
		cut(t, s, str(says, 0))
		cut(t, " "+s+" ", str(says, 1))
		cut(t, "("+s+")", sign("(", 0), str(says, 1), sign(")", 1+len(s)))
	}
	cut(t, "'a' 'b'", str("a", 0), str("b", 4))
	cut(t, "'a''b'", str("a'b", 0))
	cut(t, "'' ''", str("", 0), str("", 3))
	cut(t, "'a'b'c'", str("a", 0), name("b", 3), str("c", 4))
	cut(t, "'a'x'00'", str("a", 0), hexa("\x00", 3))
	cut(t, "b'c'", name("b", 0), str("c", 1))
	cut(t, "NULL'c'1", key("NULL", 0), str("c", 4), num("1", 7))
	for b := range 256 {
		if b != '\'' {
			says := string([]byte{byte(b)})
			cut(t, "'"+says+"'", str(says, 0))
		}
	}
}

// Promise 11.1: a text that does not end may not be, from its quote on, whatever stands in it.
func TestTextsWithoutEnd(t *testing.T) {
	for _, s := range []string{"'", "'a", "'''", "'a''", "'''a", "'''''", "'a b c ''", "' SELECT", "'\n"} {
		refused(t, s, 0)
		refused(t, "  "+s, 2)
		refused(t, "a = "+s, 4)
		refused(t, "a "+s+" ? \x00", 2)
	}
	refused(t, "'a' '", 4)
	refused(t, "'a'b'", 4)
	refused(t, "'it's'", 5)
}

// Promise 11.1: x and pairs of digits between quotes at once behind it.
func TestHex(t *testing.T) {
	cut(t, "x''", hexa("", 0))
	cut(t, "x'00'", hexa("\x00", 0))
	cut(t, "x'00ff'", hexa("\x00\xff", 0))
	cut(t, "x'0123456789abcdef'", hexa("\x01\x23\x45\x67\x89\xab\xcd\xef", 0))
	for b := range 256 {
		cut(t, fmt.Sprintf(" x'%02x' ", b), hexa(string([]byte{byte(b)}), 1))
	}
	cut(t, "x'00'x'01'", hexa("\x00", 0), hexa("\x01", 5))
	cut(t, "x'00'a", hexa("\x00", 0), name("a", 5))
	cut(t, "x'00' '01'", hexa("\x00", 0), str("01", 6))
	cut(t, "x'' ''", hexa("", 0), str("", 4))
	// A blank between them, or another letter: a name, and a text.
	for _, b := range []string{" ", "\n", "\t", "  "} {
		cut(t, "x"+b+"'00'", name("x", 0), str("00", 1+len(b)))
		cut(t, "x"+b+"'0'", name("x", 0), str("0", 1+len(b)))
	}
	cut(t, "X'00'", name("X", 0), str("00", 1))
	cut(t, "x.'00'", name("x", 0), sign(".", 1), str("00", 2))
	long := strings.Repeat("5a", 990)
	cut(t, "x'"+long+"'", hexa(strings.Repeat("Z", 990), 0))
}

// Promise 11.1: other texts behind x may not be: not even as a name and a text.
func TestHexRefused(t *testing.T) {
	for _, s := range []string{
		"x'0'", "x'000'", "x'f'", "x'0123456'",
		"x'0g'", "x'g0'", "x'0/'", "x'0:'", "x'0`'", "x'00 '", "x' 00'", "x'0 0'", "x'-1'", "x'0x'", "x'zz'", "x'\x00\x00'", "x'é'",
		"x'0A'", "x'A0'", "x'FF'", "x'fF'", "x'aB'",
		"x'00''11'", "x''''", "x'''00'", "x'00'''", "x'0''0'", "x''''''",
	} {
		refusedAnywhere(t, s)
	}
	for _, s := range []string{"x'", "x'0", "x'00", "x'''", "x'00''", "x'00 , a"} {
		refused(t, s, 0)
		refused(t, " "+s, 1)
		refused(t, "1"+s, 1)
		refused(t, "'a'"+s, 3)
	}
	for b := range 256 {
		if strings.IndexByte("0123456789abcdef'", byte(b)) < 0 {
			refused(t, "a x'"+string([]byte{'0', byte(b)})+"'", 2)
			refused(t, "a x'"+string([]byte{byte(b), '0'})+"'", 2)
		}
	}
}

// Promise 11.1: each sign alone, and each two of them, at once behind each other and with a blank between.
func TestSigns(t *testing.T) {
	all := strings.Fields(allSigns)
	if len(all) != 18 {
		t.Fatal(len(all), "signs")
	}
	for _, a := range all {
		cut(t, a, sign(a, 0))
		cut(t, "\n"+a+"\t", sign(a, 1))
		cut(t, "a"+a+"1", name("a", 0), sign(a, 1), num("1", 1+len(a)))
		cut(t, "'a'"+a+"x'00'", str("a", 0), sign(a, 3), hexa("\x00", 3+len(a)))
		for _, b := range all {
			cut(t, a+" "+b, sign(a, 0), sign(b, len(a)+1))
			if !slices.Contains(all, a+b) && !(len(b) == 2 && slices.Contains(all, a+b[:1])) {
				cut(t, a+b, sign(a, 0), sign(b, len(a)))
			}
		}
	}
}

// Promise 11.1: of signs that begin alike the longer one is the word.
func TestSignsOfTwoBytes(t *testing.T) {
	cut(t, "<>=", sign("<>", 0), sign("=", 2))
	cut(t, "<=>", sign("<=", 0), sign(">", 2))
	cut(t, ">=<", sign(">=", 0), sign("<", 2))
	cut(t, ">==", sign(">=", 0), sign("=", 2))
	cut(t, "<<=", sign("<", 0), sign("<=", 1))
	cut(t, "<<>", sign("<", 0), sign("<>", 1))
	cut(t, ">>=", sign(">", 0), sign(">=", 1))
	cut(t, "><=", sign(">", 0), sign("<=", 1))
	cut(t, "><>", sign(">", 0), sign("<>", 1))
	cut(t, "=>", sign("=", 0), sign(">", 1))
	cut(t, "=<", sign("=", 0), sign("<", 1))
	cut(t, "==", sign("=", 0), sign("=", 1))
	cut(t, "><", sign(">", 0), sign("<", 1))
	cut(t, "< >", sign("<", 0), sign(">", 2))
	cut(t, "< =", sign("<", 0), sign("=", 2))
	cut(t, ">\n=", sign(">", 0), sign("=", 2))
	cut(t, "--", sign("-", 0), sign("-", 1))
	refused(t, "a != b", 2)
	refused(t, "/* a */", 0)
	refused(t, "a;", 1)
}

// Promise 11.1: bytes that begin no word, of all 256.
func TestEachByte(t *testing.T) {
	for b := range 256 {
		c := byte(b)
		s := string([]byte{c})
		switch {
		case strings.IndexByte(" \n\t", c) >= 0:
			cut(t, s)
		case c >= 'a' && c <= 'z' || c >= 'A' && c <= 'Z' || c == '_':
			cut(t, s, name(s, 0))
		case c >= '0' && c <= '9':
			cut(t, s, num(s, 0))
		case strings.IndexByte("=<>+-*(){}[],:.", c) >= 0:
			cut(t, s, sign(s, 0))
		case c == '\'':
			refused(t, s, 0)
		default:
			refusedAnywhere(t, s)
			refused(t, "a"+s, 1)
			refused(t, "1"+s, 1)
			refused(t, "'a'"+s, 3)
			refused(t, "x'00'"+s, 5)
			refused(t, "<"+s, 1)
		}
	}
	refused(t, "é", 0)
	refused(t, "aé", 1)
	refused(t, "a\u00a0b", 1)
	refused(t, "a\rb", 1)
}

// Promise 11.1: words stand at once behind each other, with one blank between them, of each kind, and with many.
func TestBlanks(t *testing.T) {
	parts := []api.Word{name("a", 0), num("1", 0), str("b", 0), hexa("\x0c", 0), sign(",", 0), key("NULL", 0), sign("<=", 0)}
	texts := []string{"a", "1", "'b'", "x'0c'", ",", "NULL", "<="}
	for _, between := range []string{" ", "\n", "\t", "  ", "\n\n", "\t\t", " \n\t \t\n ", strings.Repeat(" ", 200)} {
		var want []api.Word
		at := len(between)
		for i, w := range parts {
			w.At = at
			want = append(want, w)
			at += len(texts[i]) + len(between)
		}
		cut(t, between+strings.Join(texts, between)+between, want...)
	}
	cut(t, "1'b'x'0c',NULL<=a", num("1", 0), str("b", 1), hexa("\x0c", 4), sign(",", 9), key("NULL", 10), sign("<=", 14), name("a", 16))
	cut(t, "a b", name("a", 0), name("b", 2))
	cut(t, "ab", name("ab", 0))
	cut(t, "1 2", num("1", 0), num("2", 2))
	cut(t, "12", num("12", 0))
}

// Promise 11.1: MaxStmt bytes may be, whatever they are; one more are refused, ahead of any word.
func TestLimit(t *testing.T) {
	most := api.MaxStmt
	if most != 2000 {
		t.Fatal(most)
	}
	cut(t, strings.Repeat(" ", most))
	cut(t, "'"+strings.Repeat("a", most-2)+"'", str(strings.Repeat("a", most-2), 0))
	cut(t, strings.Repeat(" ", most-1)+"a", name("a", most-1))
	cut(t, "a"+strings.Repeat("\n", most-1), name("a", 0))
	l, at, e := Words(strings.Repeat("(", most))
	if e != api.OK || at != 0 || len(l) != most+1 || l[most-1] != sign("(", most-1) || l[most] != (api.Word{At: most}) {
		t.Error("most words:", len(l), at, e)
	}
	refused(t, strings.Repeat("?", most), 0)
	refused(t, strings.Repeat(" ", most-1)+"?", most-1)
	for _, s := range []string{
		strings.Repeat(" ", most+1), strings.Repeat("(", most+1), "?" + strings.Repeat(" ", most), strings.Repeat("?", most+1),
		"'" + strings.Repeat("a", most), strings.Repeat("0", most+1), strings.Repeat("a", 10*most), strings.Repeat(" ", most) + "?",
	} {
		if l, at, e := Words(s); e != 3 || at != 2000 || len(l) != 0 {
			t.Errorf("of %d bytes: %v, %d, %d", len(s), l, at, e)
		}
	}
}

// Promise 11.1: of several words that may not be the first one's place is told.
func TestFirstFault(t *testing.T) {
	long := strings.Repeat("a", api.MaxName+1)
	bad := []string{"01", "x'0'", long, "?", "9223372036854775808"}
	for _, a := range bad {
		for _, b := range append(bad, "'x", "x'") {
			refused(t, a+" "+b, 0)
			refused(t, "SELECT "+a+" , "+b, 7)
			refused(t, "'01 ? x''0''' "+a+"\n"+b, 14)
		}
	}
	refused(t, "a 'b ? 01", 2)
	refused(t, "a 01 'b", 2)
}

// R2: an answer is the caller's own.
func TestOwn(t *testing.T) {
	s := "SELECT 'it''s', x'00' FROM t"
	l, _, _ := Words(s)
	for i := range l {
		l[i] = api.Word{Kind: 99, S: "spoilt", At: -1}
	}
	_ = append(l[:0], l[1:]...)
	cut(t, s, key("SELECT", 0), str("it's", 7), sign(",", 14), hexa("\x00", 16), key("FROM", 22), name("t", 27))
}

var (
	modelText = regexp.MustCompile(`^'(?:[^']|'')*'`)
	modelName = regexp.MustCompile(`^[A-Za-z_][0-9A-Za-z_]*`)
	modelNum  = regexp.MustCompile(`^[0-9]+`)
	modelSign = regexp.MustCompile(`^(?:<>|<=|>=|[-=<>+*(){}\[\],:.])`)
)

// modelQuoted is a text at the beginning; one that goes on with a quote has no end.
func modelQuoted(s string) (string, int, bool) {
	q := modelText.FindString(s)
	if q == "" || strings.HasPrefix(s[len(q):], "'") {
		return "", 0, false
	}
	return strings.ReplaceAll(q[1:len(q)-1], "''", "'"), len(q), true
}

// modelWord is the word at the beginning, made by expressions.
func modelWord(s string) (api.Word, int, bool) {
	if strings.HasPrefix(s, "x'") {
		text, n, ok := modelQuoted(s[1:])
		bytes, err := hex.DecodeString(text)
		return hexa(string(bytes), 0), n + 1, ok && err == nil && text == strings.ToLower(text)
	}
	if strings.HasPrefix(s, "'") {
		text, n, ok := modelQuoted(s)
		return str(text, 0), n, ok
	}
	if w := modelName.FindString(s); w != "" {
		if slices.Contains(strings.Fields(allKeys), w) {
			return key(w, 0), len(w), true
		}
		return name(w, 0), len(w), len(w) <= 16 && value.Name(w)
	}
	if w := modelNum.FindString(s); w != "" {
		n, _ := new(big.Int).SetString(w, 10)
		return num(w, 0), len(w), n.IsInt64() && n.String() == w
	}
	w := modelSign.FindString(s)
	return sign(w, 0), len(w), w != ""
}

// model is what Words must answer.
func model(s string) ([]api.Word, int, api.Errno) {
	var l []api.Word
	rest := s
	for {
		rest = strings.TrimLeft(rest, " \n\t")
		at := len(s) - len(rest)
		if rest == "" {
			return append(l, api.Word{At: at}), 0, api.OK
		}
		w, n, ok := modelWord(rest)
		if !ok {
			return nil, at, api.ErrLex
		}
		w.At = at
		l = append(l, w)
		rest = rest[n:]
	}
}

func like(t *testing.T, s string) api.Errno {
	t.Helper()
	l, at, e := Words(s)
	wantL, wantAt, wantE := model(s)
	if e != wantE || at != wantAt || !slices.Equal(l, wantL) {
		t.Fatalf("Words(%q) = %v, %d, %d, want %v, %d, %d", s, l, at, e, wantL, wantAt, wantE)
	}
	return e
}

// Promise 11.1: all short texts of some bytes, against the model.
func TestAllShort(t *testing.T) {
	var walk func(alphabet, s string, most int)
	walk = func(alphabet, s string, most int) {
		like(t, s)
		if len(s) == most {
			return
		}
		for i := range len(alphabet) {
			walk(alphabet, s+alphabet[i:i+1], most)
		}
	}
	walk("x'0a A<=", "", 5)
	walk("x'0f", "", 7)
	walk("<>= .", "", 5)
	walk("IOSRNT ", "", 5)
}

// T5, promise 11.1: long statements, of words that may be and a few that may not, and of bytes at random: an answer, or a named error.
func TestMany(t *testing.T) {
	pieces := append(strings.Fields(allKeys+" "+allSigns),
		"", " ", "\n", "\t", "a", "x", "x1", "_", "0", "1", "42", "9223372036854775807", "''", "'a'", "'it''s'", "x''", "x'00'", "x'abcdef'", strings.Repeat("n", 16))
	bad := []string{"?", "'", "x'", "x'0'", "x'AB'", "01", "9223372036854775808", strings.Repeat("n", 17), "\r", "\xff", "é"}
	r := rand.New(rand.NewSource(11))
	good := 0
	for range 5000 {
		var b strings.Builder
		for range r.Intn(60) {
			b.WriteString(pieces[r.Intn(len(pieces))])
			if r.Intn(3) > 0 {
				b.WriteString(" ")
			}
			if r.Intn(200) == 0 {
				b.WriteString(bad[r.Intn(len(bad))])
			}
		}
		if s := b.String(); len(s) <= api.MaxStmt && like(t, s) == api.OK {
			good++
		}
	}
	if good < 1000 || good > 4500 {
		t.Error("the statements are too much alike:", good, "of 5000 may be")
	}
	for range 20000 {
		s := make([]byte, r.Intn(12))
		for i := range s {
			s[i] = byte(r.Intn(256))
		}
		like(t, string(s))
	}
}

package token

import (
	"fmt"
	"math"
	"math/big"
	"regexp"
	"slices"
	"strings"
	"testing"
	"unsafe"

	"gatepost/api"
	"gatepost/plain"
)

// The document's kinds of bytes, told once more by other means.
const (
	wordBytes = "0123456789abcdefghijklmnopqrstuvwxyzABCDEFGHIJKLMNOPQRSTUVWXYZ!#$%&'*+-.^_`|~"
	great     = "ABCDEFGHIJKLMNOPQRSTUVWXYZ"
	small     = "abcdefghijklmnopqrstuvwxyz"
)

// Texts are made a rune a byte for these forms (see runes), so that every byte is one of theirs.
var (
	textForm   = regexp.MustCompile(`\A[\x09\x20-\x7e\x{80}-\x{ff}]*\z`)
	quotedForm = regexp.MustCompile(`\A"((?:[\x09\x20-\x21\x23-\x5b\x5d-\x7e\x{80}-\x{ff}]|\\[\x09\x20-\x7e\x{80}-\x{ff}])*)"`)
	escapeForm = regexp.MustCompile(`\\(.)`)
	digitsForm = regexp.MustCompile(`\A[0-9]+\z`)
)

// runes is a text with a rune for each byte; unrunes is back.
func runes(s string) string {
	out := make([]rune, len(s))
	for i := range len(s) {
		out[i] = rune(s[i])
	}
	return string(out)
}

func unrunes(s string) string {
	var out []byte
	for _, r := range s {
		out = append(out, byte(r))
	}
	return string(out)
}

// ruleIs is Is by taking away all that may be there.
func ruleIs(s string) bool { return s != "" && strings.TrimLeft(s, wordBytes) == "" }

// ruleQuote is Quote by replacing; false: ErrForm.
func ruleQuote(s string) (string, bool) {
	if !textForm.MatchString(runes(s)) {
		return "", false
	}
	return `"` + strings.NewReplacer(`"`, `\"`, `\`, `\\`).Replace(s) + `"`, true
}

// ruleQuoted is the text between marks with which s begins, and how many bytes it takes.
func ruleQuoted(s string) (string, int, bool) {
	m := quotedForm.FindStringSubmatch(runes(s))
	if m == nil {
		return "", 0, false
	}
	return unrunes(escapeForm.ReplaceAllString(m[1], "$1")), len(unrunes(m[0])), true
}

// ruleList is List, cut at commas; the place is -1 where none is told.
func ruleList(s string) (words []string, e api.Errno, place int) {
	began := 0
	for _, part := range strings.Split(s, ",") {
		behind := strings.TrimLeft(part, " \t")
		rest := strings.TrimLeft(behind, wordBytes)
		left := strings.TrimLeft(rest, " \t")
		if left != "" {
			return nil, api.ErrForm, began + len(part) - len(left)
		}
		if word := strings.TrimSuffix(behind, rest); word != "" {
			words = append(words, word)
		}
		began += len(part) + 1
	}
	if len(words) > 40 {
		return nil, api.ErrLimit, -1
	}
	return words, api.OK, -1
}

// wantErr asks that an error came out as it is told, at its place (-1: without one).
func wantErr(t *testing.T, call, in string, err error, want api.Errno, at int) {
	t.Helper()
	if e, place := plain.Place(err); e != want || place != at {
		t.Errorf("%s(%.100q): %v (place %d); want %v (place %d)", call, in, err, place, want, at)
	}
}

// wantQuote asks Quote; false: ErrForm, and beside it nothing.
func wantQuote(t *testing.T, s, want string, ok bool) {
	t.Helper()
	got, err := Quote(s)
	wantErr(t, "Quote", s, err, formUnless(ok), -1)
	if got != want {
		t.Errorf("Quote(%.100q) = %.100q; want %.100q", s, got, want)
	}
}

// wantValue asks Value; false: ErrForm, and beside it nothing.
func wantValue(t *testing.T, s, want string, ok bool) {
	t.Helper()
	got, err := Value(s)
	wantErr(t, "Value", s, err, formUnless(ok), -1)
	if got != want {
		t.Errorf("Value(%.100q) = %.100q; want %.100q", s, got, want)
	}
}

func formUnless(ok bool) api.Errno {
	if ok {
		return api.OK
	}
	return api.ErrForm
}

// wantQuoted asks Quoted of a cursor that is at some byte of s: what it answers, and where it is then.
func wantQuoted(t *testing.T, s string, at int, want string, end int, ok bool) {
	t.Helper()
	c := On(s)
	c.Go(at)
	got, is := c.Quoted()
	if got != want || is != ok || c.At() != end {
		t.Errorf("Quoted at %d of %.100q = %.100q, %v, then at %d; want %.100q, %v, then at %d", at, s, got, is, c.At(), want, ok, end)
	}
}

// wantList asks List; with an error nothing is to stand beside it.
func wantList(t *testing.T, s string, want []string, e api.Errno, at int) {
	t.Helper()
	got, err := List(s)
	wantErr(t, "List", s, err, e, at)
	if !slices.Equal(got, want) || e != api.OK && got != nil {
		t.Errorf("List(%.100q) = %.100q; want %.100q", s, got, want)
	}
}

// wantSeconds asks Seconds; -1: ErrForm, and beside it 0.
func wantSeconds(t *testing.T, s string, want int) {
	t.Helper()
	got, err := Seconds(s)
	wantErr(t, "Seconds", s, err, formUnless(want >= 0), -1)
	if got != max(want, 0) {
		t.Errorf("Seconds(%.100q) = %d; want %d", s, got, max(want, 0))
	}
}

// each calls try with every text of at most most of some pieces.
func each(pieces []string, most int, try func(string)) {
	var more func(s string, left int)
	more = func(s string, left int) {
		try(s)
		if left == 0 {
			return
		}
		for _, p := range pieces {
			more(s+p, left-1)
		}
	}
	more("", most)
}

// one is the text of one byte.
func one(c int) string { return string([]byte{byte(c)}) }

// 4.1

func TestByteOfEach(t *testing.T) {
	count := 0
	for c := range 256 {
		got := Byte(byte(c))
		if want := strings.IndexByte(wordBytes, byte(c)) >= 0; got != want {
			t.Errorf("Byte(%d) = %v; want %v", c, got, want)
		}
		if got {
			count++
		}
	}
	if count != 10+26+26+15 {
		t.Errorf("%d bytes may be in a word; want 77", count)
	}
	for _, c := range []byte{0, 8, 9, 10, 31, 32, '"', '(', ')', ',', '/', ':', ';', '<', '=', '>', '?', '@', '[', '\\', ']', '{', '}', 127, 128, 255} {
		if Byte(c) {
			t.Errorf("Byte(%d); want false", c)
		}
	}
	for _, c := range []byte{'0', '9', 'a', 'z', 'A', 'Z', '!', '-', 96, 126} {
		if !Byte(c) {
			t.Errorf("not Byte(%d); want true", c)
		}
	}
}

func TestIs(t *testing.T) {
	for _, c := range []struct {
		s    string
		want bool
	}{
		{"", false}, {"a", true}, {"GET", true}, {"x-a", true}, {"*", true}, {"0", true}, {"~", true}, {"`", true}, {"!#$%&'*+-.^_`|~", true}, {"X-Requested-With", true},
		{" ", false}, {"a b", false}, {" a", false}, {"a ", false}, {"a\t", false}, {"a,b", false}, {`"a"`, false}, {`\`, false}, {"a=b", false}, {"a/b", false}, {"(a)", false},
		{"é", false}, {"a\x00", false}, {"\x7f", false}, {"a\xff", false}, {"a\n", false},
		{strings.Repeat("a", 100_000), true}, {strings.Repeat("a", 100_000) + " ", false}, {" " + strings.Repeat("a", 100_000), false},
	} {
		if got := Is(c.s); got != c.want {
			t.Errorf("Is(%.100q) = %v; want %v", c.s, got, c.want)
		}
	}
}

// TestIsOfEachByte: each byte, alone, first, in the middle, last.
func TestIsOfEachByte(t *testing.T) {
	for c := range 256 {
		for _, s := range []string{one(c), one(c) + "a", "a" + one(c) + "a", "a" + one(c)} {
			if got, want := Is(s), ruleIs(s); got != want {
				t.Errorf("Is(%q) = %v; want %v", s, got, want)
			}
		}
	}
}

func TestSame(t *testing.T) {
	for _, c := range []struct {
		a, b string
		want bool
	}{
		{"", "", true}, {"a", "a", true}, {"a", "A", true}, {"Basic", "bASIC", true}, {"WWW-Authenticate", "www-authenticate", true}, {great, small, true}, {"a b\t", "A B\t", true}, {"é", "é", true}, {"\xff\x00", "\xff\x00", true},
		{"", "a", false}, {"a", "", false}, {"a", "b", false}, {"a", "aa", false}, {"aa", "A", false}, {"a", "a ", false}, {"a-b", "a_b", false},
		{"@", "`", false}, {"[", "{", false}, {"^", "~", false}, {"é", "É", false}, {"k", "\u212a", false}, {"s", "\u017f", false}, {"\xff", "\xfe", false}, {"\xff", "\ufffd", false}, {"\xe9", "\xc9", false},
	} {
		if got := Same(c.a, c.b); got != c.want {
			t.Errorf("Same(%q, %q) = %v; want %v", c.a, c.b, got, c.want)
		}
		if got := Same(c.b, c.a); got != c.want {
			t.Errorf("Same(%q, %q) = %v; want %v", c.b, c.a, got, c.want)
		}
	}
}

func TestSameOfEachTwoBytes(t *testing.T) {
	for a := range 256 {
		for b := range 256 {
			at := strings.IndexByte(great+small, byte(a))
			want := a == b || at >= 0 && (small + great)[at] == byte(b)
			if got := Same("x"+one(a), "X"+one(b)); got != want {
				t.Errorf("Same of bytes %d and %d = %v; want %v", a, b, got, want)
			}
		}
	}
}

func TestQuote(t *testing.T) {
	for _, c := range [][2]string{
		{``, `""`},
		{`a`, `"a"`},
		{` `, `" "`},
		{"\t", "\"\t\""},
		{`open sesame`, `"open sesame"`},
		{`"`, `"\""`},
		{`\`, `"\\"`},
		{`"ab`, `"\"ab"`},
		{`a"b`, `"a\"b"`},
		{`ab"`, `"ab\""`},
		{`\ab`, `"\\ab"`},
		{`a\b`, `"a\\b"`},
		{`ab\`, `"ab\\"`},
		{`\"`, `"\\\""`},
		{`"\`, `"\"\\"`},
		{`""`, `"\"\""`},
		{`\\`, `"\\\\"`},
		{`é`, `"é"`},
		{"\x80\xff", "\"\x80\xff\""},
		{`a,b=c;d`, `"a,b=c;d"`},
	} {
		wantQuote(t, c[0], c[1], true)
	}
}

// TestQuoteOfEachByte: each byte, alone, first, in the middle, last.
func TestQuoteOfEachByte(t *testing.T) {
	for c := range 256 {
		text := c == 9 || c >= 32 && c != 127
		for _, s := range []string{one(c), one(c) + " b", "a " + one(c) + " b", "a " + one(c)} {
			want, ok := ruleQuote(s)
			if ok != text {
				t.Fatalf("byte %d: the test's form says %v", c, ok)
			}
			wantQuote(t, s, want, ok)
			if ruleIs(s) {
				want = s
			}
			wantValue(t, s, want, ok)
		}
	}
	for _, c := range []int{0, 8, 10, 31, 127} {
		wantQuote(t, one(c), "", false)
		wantValue(t, "a"+one(c), "", false)
	}
}

func TestValue(t *testing.T) {
	for _, c := range [][2]string{
		{``, `""`}, {`a`, `a`}, {`GET`, `GET`}, {`*`, `*`}, {`00000001`, `00000001`}, {"`", "`"},
		{`a b`, `"a b"`}, {`a,b`, `"a,b"`}, {`/a`, `"/a"`}, {` a`, `" a"`}, {`a `, `"a "`}, {`a=`, `"a="`}, {`"a"`, `"\"a\""`}, {`é`, `"é"`},
	} {
		wantValue(t, c[0], c[1], true)
	}
	for _, s := range []string{"\x00", "a\n", "\r\n", "a\x7f", "\x1fa", "a b\x08"} {
		wantValue(t, s, "", false)
	}
}

// TestQuoteIsQuoted: what is written is read, whatever stands about it.
func TestQuoteIsQuoted(t *testing.T) {
	try := func(s string) {
		want, ok := ruleQuote(s)
		wantQuote(t, s, want, ok)
		if !ok {
			return
		}
		for _, behind := range []string{"", `"`, `\`, "a", " ", "\x00"} {
			wantQuoted(t, "=="+want+behind, 2, s, 2+len(want), true)
		}
	}
	each([]string{"a", `"`, `\`, " ", "\t", "\xff", "\n", "\x7f"}, 4, try)
	try(strings.Repeat(`"\a`, 30_000))
	try(strings.Repeat(`a`, 100_000) + "\x01")
}

// 4.2

func TestCursorOnNothing(t *testing.T) {
	c := On("")
	for _, at := range []int{0, -1, 1, math.MinInt, math.MaxInt} {
		c.Go(at)
		if c.At() != 0 || !c.End() {
			t.Errorf("Go(%d) on nothing: at %d, end %v; want 0, true", at, c.At(), c.End())
		}
		if c.Blanks() || c.Mark(0) || c.Mark('"') || c.Word() != "" {
			t.Errorf("Go(%d) on nothing: there is something; want nothing", at)
		}
		if s, ok := c.Quoted(); s != "" || ok {
			t.Errorf("Quoted on nothing = %q, %v; want nothing, false", s, ok)
		}
		if c.At() != 0 || !c.End() {
			t.Errorf("on nothing: at %d, end %v; want 0, true", c.At(), c.End())
		}
	}
}

func TestCursorGoes(t *testing.T) {
	c := On("abc")
	if c.At() != 0 || c.End() {
		t.Errorf("On: at %d, end %v; want 0, false", c.At(), c.End())
	}
	for _, k := range []struct {
		at, want int
	}{
		{0, 0}, {1, 1}, {2, 2}, {3, 3}, {4, 3}, {5, 3}, {1 << 31, 3}, {1 << 32, 3}, {math.MaxInt, 3}, {2, 2}, {-1, 0}, {3, 3}, {-2, 0}, {-1 << 32, 0}, {math.MinInt, 0}, {1, 1},
	} {
		c.Go(k.at)
		if c.At() != k.want || c.End() != (k.want == 3) {
			t.Errorf("Go(%d): at %d, end %v; want %d, %v", k.at, c.At(), c.End(), k.want, k.want == 3)
		}
		if got, want := c.Word(), "abc"[k.want:]; got != want {
			t.Errorf("Go(%d): then Word = %q; want %q", k.at, got, want)
		}
		if c.At() != 3 || !c.End() {
			t.Errorf("behind the word: at %d, end %v; want 3, true", c.At(), c.End())
		}
	}
}

// TestCursorsApart: what one does is nothing to another one.
func TestCursorsApart(t *testing.T) {
	a, b := On("ab cd"), On("ab cd")
	a.Word()
	if b.At() != 0 || a.At() != 2 {
		t.Errorf("at %d and %d; want 2 and 0", a.At(), b.At())
	}
	b.Go(3)
	if a.At() != 2 || b.Word() != "cd" {
		t.Errorf("at %d; want 2", a.At())
	}
}

func TestBlanks(t *testing.T) {
	for _, c := range []struct {
		s    string
		at   int
		want int
	}{
		{" ", 0, 1}, {"\t", 0, 1}, {"  ", 0, 2}, {" \t \t", 0, 4}, {"\t a", 0, 2}, {"a ", 1, 2}, {"a \t b", 1, 4}, {"   ", 1, 3}, {"a  b  ", 1, 3},
		{"a ", 0, 0}, {"a", 1, 1}, {"  ", 2, 2}, {",  ", 0, 0}, {"\n ", 0, 0}, {"\r ", 0, 0}, {"\v", 0, 0}, {"\x00", 0, 0}, {"\xa0", 0, 0}, {"\u00a0", 0, 0},
		{strings.Repeat(" \t", 50_000) + "a ", 0, 100_000},
	} {
		k := On(c.s)
		k.Go(c.at)
		got := k.Blanks()
		if got != (c.want > c.at) || k.At() != c.want {
			t.Errorf("Blanks at %d of %.100q = %v, then at %d; want %v, then at %d", c.at, c.s, got, k.At(), c.want > c.at, c.want)
		}
		if k.Blanks() || k.At() != c.want {
			t.Errorf("Blanks twice at %d of %.100q: at %d; want none, and %d", c.at, c.s, k.At(), c.want)
		}
	}
}

func TestMarkOfEachTwoBytes(t *testing.T) {
	for a := range 256 {
		for b := range 256 {
			c := On(one(a) + one(a))
			c.Go(1)
			got, want := c.Mark(byte(b)), a == b
			if got != want || c.End() != want {
				t.Errorf("Mark(%d) on byte %d = %v, end %v; want %v", b, a, got, c.End(), want)
			}
		}
		c := On(one(a))
		c.Go(1)
		if c.Mark(byte(a)) || c.At() != 1 {
			t.Errorf("Mark(%d) at the end: at %d; want false, and 1", a, c.At())
		}
	}
}

func TestMarkIsOne(t *testing.T) {
	c := On(",,=")
	for i, k := range []struct {
		b    byte
		want bool
		at   int
	}{
		{'=', false, 0}, {',', true, 1}, {0, false, 1}, {',', true, 2}, {',', false, 2}, {'=', true, 3}, {'=', false, 3}, {0, false, 3},
	} {
		if got := c.Mark(k.b); got != k.want || c.At() != k.at {
			t.Errorf("%d: Mark(%q) = %v, then at %d; want %v, then at %d", i, k.b, got, c.At(), k.want, k.at)
		}
	}
}

func TestWord(t *testing.T) {
	for _, c := range []struct {
		s    string
		at   int
		want string
	}{
		{"a", 0, "a"}, {"abc", 1, "bc"}, {"realm=x", 0, "realm"}, {"realm=x", 5, ""}, {"realm=x", 6, "x"}, {"GET, POST", 0, "GET"}, {"GET, POST", 3, ""}, {"GET, POST", 5, "POST"},
		{" a", 0, ""}, {"\ta", 0, ""}, {"\ta ", 1, "a"}, {`"a"`, 0, ""}, {`"a"`, 1, "a"}, {`a\b`, 0, "a"}, {"aé", 0, "a"}, {"é", 0, ""}, {"a", 1, ""},
		{"!#$%&'*+-.^_`|~09azAZ(", 0, "!#$%&'*+-.^_`|~09azAZ"},
		{strings.Repeat("a", 100_000) + ",", 1, strings.Repeat("a", 99_999)},
	} {
		k := On(c.s)
		k.Go(c.at)
		got := k.Word()
		if got != c.want || k.At() != c.at+len(c.want) {
			t.Errorf("Word at %d of %.100q = %.100q, then at %d; want %.100q, then at %d", c.at, c.s, got, k.At(), c.want, c.at+len(c.want))
		}
		if got := k.Word(); got != "" || k.At() != c.at+len(c.want) {
			t.Errorf("Word twice at %d of %.100q = %.100q; want nothing", c.at, c.s, got)
		}
	}
}

// TestWordOfEachByte: each byte ends a word, or is one of it.
func TestWordOfEachByte(t *testing.T) {
	for c := range 256 {
		want := "a"
		if strings.IndexByte(wordBytes, byte(c)) >= 0 {
			want = "a" + one(c) + "b"
		}
		k := On("a" + one(c) + "b")
		if got := k.Word(); got != want || k.At() != len(want) {
			t.Errorf("Word ahead of byte %d = %q, then at %d; want %q", c, got, k.At(), want)
		}
	}
}

func TestQuoted(t *testing.T) {
	for _, c := range []struct {
		s    string
		at   int
		want string
		end  int
	}{
		{`""`, 0, ``, 2}, {`"a"`, 0, `a`, 3}, {`"a b"`, 0, `a b`, 5}, {"\" \t\"", 0, " \t", 4}, {`"a,b=c"`, 0, `a,b=c`, 7},
		{`"\""`, 0, `"`, 4}, {`"\\"`, 0, `\`, 4}, {`"\a"`, 0, `a`, 4}, {`"\ "`, 0, ` `, 4}, {"\"\\\t\"", 0, "\t", 4}, {"\"\\\xff\"", 0, "\xff", 4}, {`"\é"`, 0, `é`, 5}, {`"\n"`, 0, `n`, 4},
		{`"\"a"`, 0, `"a`, 5}, {`"a\"b"`, 0, `a"b`, 6}, {`"a\""`, 0, `a"`, 5}, {`"\\\""`, 0, `\"`, 6}, {`"\a\b\c"`, 0, `abc`, 8},
		{`""a`, 0, ``, 2}, {`"a"b"c"`, 0, `a`, 3}, {`"a"b"c"`, 2, `b`, 5}, {`"a"b"c"`, 4, `c`, 7}, {`"a"\`, 0, `a`, 3}, {"\"a\"\x00", 0, `a`, 3}, {`"\\""`, 0, `\`, 4}, {`""""`, 0, ``, 2}, {`""""`, 1, ``, 3},
		{`realm="x y", a`, 6, `x y`, 11}, {`a"b"`, 1, `b`, 4}, {`"\"`, 2, ``, 2},
	} {
		wantQuoted(t, c.s, c.at, c.want, c.end, c.end > c.at)
	}
}

func TestQuotedIsNone(t *testing.T) {
	for _, s := range []string{
		`a`, `a"b"`, ` "a"`, "\t\"a\"", `\"a"`, `'a'`, `,""`, "\x00\"a\"", // another beginning
		`"`, `"a`, `"a b `, `"\"`, `"\\`, `"a\"`, `"a\"b`, `"\\\"`, // no end
		`"\`, `"a\`, `"\\\`, // \ last
		"\"\x00\"", "\"\n\"", "\"\x08\"", "\"\x1f\"", "\"\x7f\"", "\"a\r\n\"", "\"a\x01", // bytes that may not be there
		"\"\\\x00\"", "\"\\\n\"", "\"\\\x7f\"", "\"\\\x1f\"", "\"a\\\x08b\"", // not behind \ either
	} {
		wantQuoted(t, s, 0, "", 0, false)
		wantQuoted(t, "= "+s, 2, "", 2, false)
		wantQuoted(t, s, len(s), "", len(s), false)
	}
}

// TestQuotedOfEachByte: each byte as it is, and behind \.
func TestQuotedOfEachByte(t *testing.T) {
	for c := range 256 {
		for _, s := range []string{`"` + one(c), `"` + one(c) + `"`, `"a` + one(c) + `b"`, `"\` + one(c) + `"`, `"a\` + one(c) + `b"`, `"a"` + one(c), one(c) + `"a"`} {
			text, size, ok := ruleQuoted(s)
			wantQuoted(t, s, 0, text, size, ok)
		}
		text := c == 9 || c >= 32 && c != 127
		if _, ok := On(`"\` + one(c) + `"`).Quoted(); ok != text {
			t.Errorf("Quoted of byte %d behind \\: %v; want %v", c, ok, text)
		}
	}
}

func TestQuotedOfAllShortTexts(t *testing.T) {
	each([]string{`"`, `\`, "a", " ", "\n", "\xff"}, 6, func(s string) {
		text, size, ok := ruleQuoted(s)
		wantQuoted(t, s, 0, text, size, ok)
	})
}

func TestQuotedOfLongTexts(t *testing.T) {
	long := strings.Repeat("a", 100_000)
	wantQuoted(t, `"`+long+`"`, 0, long, len(long)+2, true)
	wantQuoted(t, `"`+long, 0, "", 0, false)
	wantQuoted(t, `"`+long+"\n\"", 0, "", 0, false)
	wantQuoted(t, `"`+strings.Repeat(`\a`, 100_000)+`"`, 0, long, 200_002, true)
	wantQuoted(t, strings.Repeat(`\`, 100_000), 0, "", 0, false)
	wantQuoted(t, `"`+strings.Repeat(`\`, 100_000)+`"`, 0, strings.Repeat(`\`, 50_000), 100_002, true)
	wantQuoted(t, `"`+strings.Repeat(`\`, 100_001)+`"`, 0, "", 0, false)
}

// TestCursorSteps: a header's value, from its beginning to its end.
func TestCursorSteps(t *testing.T) {
	c := On("Digest \t realm = \"a \\\"b\\\"\",nonce=x\t")
	quoted := func() any {
		text, ok := c.Quoted()
		return fmt.Sprint(text, "|", ok)
	}
	blanks := func() any { return c.Blanks() }
	word := func() any { return c.Word() }
	end := func() any { return c.End() }
	mark := func(b byte) func() any { return func() any { return c.Mark(b) } }
	for i, step := range []struct {
		do   func() any
		want any
		at   int
	}{
		{blanks, false, 0}, {word, "Digest", 6}, {word, "", 6}, {blanks, true, 9}, {blanks, false, 9}, {word, "realm", 14}, {mark('='), false, 14}, {blanks, true, 15}, {mark('='), true, 16}, {quoted, "|false", 16}, {blanks, true, 17}, {word, "", 17}, {quoted, `a "b"|true`, 26},
		{mark(','), true, 27}, {mark(','), false, 27}, {word, "nonce", 32}, {mark('='), true, 33}, {quoted, "|false", 33}, {word, "x", 34}, {end, false, 34}, {blanks, true, 35}, {end, true, 35}, {blanks, false, 35}, {quoted, "|false", 35},
	} {
		if got := step.do(); got != step.want || c.At() != step.at {
			t.Errorf("step %d: %v, then at %d; want %v, then at %d", i, got, c.At(), step.want, step.at)
		}
	}
}

// 4.3

func TestList(t *testing.T) {
	for _, c := range []struct {
		s    string
		want []string
	}{
		{"", nil}, {" ", nil}, {"\t", nil}, {" \t ", nil}, {",", nil}, {",,", nil}, {", ,\t,", nil}, {" , ", nil}, {strings.Repeat(",", 1000), nil}, {strings.Repeat(" ,", 1000), nil},
		{"a", []string{"a"}}, {" a", []string{"a"}}, {"a ", []string{"a"}}, {"\t a\t ", []string{"a"}}, {",a", []string{"a"}}, {"a,", []string{"a"}}, {",,a,,", []string{"a"}}, {" , a , ", []string{"a"}},
		{"a,b", []string{"a", "b"}}, {"a, b", []string{"a", "b"}}, {"a ,b", []string{"a", "b"}}, {"a\t,\tb", []string{"a", "b"}}, {"a,,b", []string{"a", "b"}}, {"a, ,b", []string{"a", "b"}}, {"a,\t, ,b,", []string{"a", "b"}},
		{"GET, POST, PUT", []string{"GET", "POST", "PUT"}}, {"auth,auth-int", []string{"auth", "auth-int"}}, {"*", []string{"*"}}, {"x-a,X-A,x-a", []string{"x-a", "X-A", "x-a"}}, {"b,a", []string{"b", "a"}},
		{"!#$%&'*+-.^_`|~,0", []string{"!#$%&'*+-.^_`|~", "0"}},
	} {
		wantList(t, c.s, c.want, api.OK, -1)
	}
}

func TestListRefuses(t *testing.T) {
	for _, c := range []struct {
		s  string
		at int
	}{
		{"a b", 2}, {"a\tb", 2}, {" a  b", 4}, {"a, b c", 5}, {"a b, c d", 2}, {"a b c", 2}, {",a b", 3},
		{`"`, 0}, {`"a"`, 0}, {` "a"`, 1}, {`a"`, 1}, {`a "`, 2}, {`a,"b"`, 2}, {`a,b"`, 3}, {`a, "b"`, 3},
		{"=", 0}, {"a=b", 1}, {"a;b", 1}, {"a/b", 1}, {"(a)", 0}, {"a,=,b", 2}, {`\`, 0}, {"a, ;", 3},
		{"\n", 0}, {"a\n", 1}, {"a,\nb", 2}, {"a\r\n", 1}, {"\x00", 0}, {"a\x00", 1}, {"é", 0}, {"aé", 1}, {"\u00a0a", 0}, {"a,\xff", 2}, {"\x7f", 0},
		{strings.Repeat("a,", 20) + "a b", 42}, {strings.Repeat(",", 1000) + "a b", 1002}, {strings.Repeat(" ", 1000) + "?", 1000},
	} {
		wantList(t, c.s, nil, api.ErrForm, c.at)
	}
}

// TestListLimit: MaxList words, and one more; empty places don't count.
func TestListLimit(t *testing.T) {
	words := func(n int) []string { return slices.Repeat([]string{"ab"}, n) }
	for _, between := range []string{",", ", ", " ,\t", ",,", ", , ,"} {
		for _, n := range []int{39, 40} {
			s := strings.Join(words(n), between)
			wantList(t, s, words(n), api.OK, -1)
			wantList(t, between+s+between, words(n), api.OK, -1)
		}
		for _, n := range []int{41, 42, 80, 1000} {
			s := strings.Join(words(n), between)
			wantList(t, s, nil, api.ErrLimit, -1)
			wantList(t, between+s+between, nil, api.ErrLimit, -1)
		}
	}
	wantList(t, strings.Repeat("ab,", 100_000), nil, api.ErrLimit, -1)
}

// TestListFormAheadOfLimit: where there are too many words and something else, too, ErrForm is told, wherever that stands.
func TestListFormAheadOfLimit(t *testing.T) {
	for n := range 100 {
		s := strings.Repeat("a,", n)
		wantList(t, s+"a b", nil, api.ErrForm, 2*n+2)
		wantList(t, s+"=", nil, api.ErrForm, 2*n)
		wantList(t, s+"=,"+s, nil, api.ErrForm, 2*n)
		wantList(t, s+"a=,"+strings.Repeat("a,", 50), nil, api.ErrForm, 2*n+1)
		wantList(t, s+" \"a\",=", nil, api.ErrForm, 2*n+1)
	}
}

func TestListOfAllShortTexts(t *testing.T) {
	each([]string{"a", "B-", ",", " ", "\t", "=", "\xff"}, 6, func(s string) {
		words, e, place := ruleList(s)
		wantList(t, s, words, e, place)
	})
}

// TestListOfEachByte: each byte alone, ahead of a word, in it, and behind it.
func TestListOfEachByte(t *testing.T) {
	for c := range 256 {
		for _, s := range []string{one(c), one(c) + "a", "a" + one(c) + "a", "a" + one(c), "a," + one(c) + ",b", "a, b " + one(c), "a " + one(c) + " b"} {
			words, e, place := ruleList(s)
			wantList(t, s, words, e, place)
		}
	}
}

func TestJoin(t *testing.T) {
	for _, c := range []struct {
		l    []string
		want string
	}{
		{nil, ""}, {[]string{}, ""}, {[]string{""}, ""}, {[]string{"a"}, "a"}, {[]string{"a", "b"}, "a, b"}, {[]string{"GET", "POST", "*"}, "GET, POST, *"}, {[]string{"", ""}, ", "}, {[]string{"a", "", "b"}, "a, , b"}, {[]string{"a,b", " c "}, "a,b,  c "}, {[]string{"\xff", "\""}, "\xff, \""},
		{slices.Repeat([]string{"a"}, 1000), strings.Repeat("a, ", 999) + "a"},
	} {
		if got := Join(c.l); got != c.want {
			t.Errorf("Join(%.100q) = %.100q; want %.100q", c.l, got, c.want)
		}
	}
}

// TestJoinIsList: what is written is read.
func TestJoinIsList(t *testing.T) {
	words := []string{"a", "GET", "x-a", "*", "!#$%&'*+-.^_`|~", "0"}
	for n := range api.MaxList + 1 {
		var l []string
		for i := range n {
			l = append(l, words[(i*i+n)%len(words)])
		}
		wantList(t, Join(l), l, api.OK, -1)
	}
}

func TestSeconds(t *testing.T) {
	const most = 1 << 31
	for _, c := range []struct {
		s    string
		want int
	}{
		{"0", 0}, {"1", 1}, {"5", 5}, {"9", 9}, {"10", 10}, {"600", 600}, {"86400", 86400}, {"1234567890", 1234567890},
		{"00", 0}, {"007", 7}, {"0000000000000000000000000000010", 10}, {strings.Repeat("0", 100_000), 0}, {strings.Repeat("0", 100_000) + "12", 12}, {strings.Repeat("0", 50) + "2147483649", most},
		{"2147483646", most - 2}, {"2147483647", most - 1}, {"2147483648", most}, {"2147483649", most}, {"2147483650", most}, {"2147483657", most}, {"2147483658", most}, {"3000000000", most}, {"4294967296", most}, {"4294967297", most}, {"10000000000", most},
		{"9223372036854775807", most}, {"9223372036854775808", most}, {"18446744073709551615", most}, {"18446744073709551616", most}, {"18446744073709551617", most}, {"99999999999999999999999", most},
		{"1" + strings.Repeat("0", 100_000), most}, {strings.Repeat("9", 100_000), most},
		{"", -1}, {"-", -1}, {"+", -1}, {"-1", -1}, {"+1", -1}, {"-0", -1}, {" ", -1}, {" 1", -1}, {"1 ", -1}, {"\t1", -1}, {"1\n", -1}, {"1 2", -1}, {"1x", -1}, {"x1", -1}, {"1.0", -1}, {"1e3", -1}, {"0x1", -1}, {"1_0", -1}, {"1,0", -1}, {"1,", -1}, {`"1"`, -1}, {"/", -1}, {":", -1}, {"\u0661", -1}, {"1\x00", -1}, {"\xff", -1},
		{"99999999999999999999999x", -1}, {strings.Repeat("9", 100_000) + "x", -1}, {"x" + strings.Repeat("9", 100_000), -1},
	} {
		wantSeconds(t, c.s, c.want)
	}
}

// TestSecondsByRule: many texts, against numbers of any size.
func TestSecondsByRule(t *testing.T) {
	try := func(s string) {
		want := -1
		if digitsForm.MatchString(runes(s)) {
			n, _ := new(big.Int).SetString(s, 10)
			want = 1 << 31
			if n.Cmp(big.NewInt(1<<31)) < 0 {
				want = int(n.Int64())
			}
		}
		wantSeconds(t, s, want)
	}
	for c := range 256 {
		for _, s := range []string{one(c), one(c) + "1", "1" + one(c), "1" + one(c) + "1"} {
			try(s)
		}
	}
	for n := 1<<31 - 50; n < 1<<31+50; n++ {
		try(fmt.Sprint(n))
		try(fmt.Sprint("0", n))
		try(fmt.Sprint(n, "0"))
	}
	each([]string{"0", "7", "21474836", "48", " ", "-"}, 5, try)
}

// P4

// apart asks that two texts share no memory.
func apart(t *testing.T, call, in, out string) {
	t.Helper()
	if in == "" || out == "" {
		return
	}
	began, first := uintptr(unsafe.Pointer(unsafe.StringData(in))), uintptr(unsafe.Pointer(unsafe.StringData(out)))
	if first < began+uintptr(len(in)) && began < first+uintptr(len(out)) {
		t.Errorf("%s(%q) = %q: not fresh memory", call, in, out)
	}
}

func TestFreshMemory(t *testing.T) {
	s := strings.Repeat("word", 10)
	v, _ := Value(s)
	apart(t, "Value", s, v)
	apart(t, "Word", s, On(s).Word())
	l, _ := List(s)
	if len(l) != 1 {
		t.Fatalf("List(%q) = %q; want one word", s, l)
	}
	apart(t, "List", s, l[0])
	apart(t, "Join", s, Join([]string{s}))
	q := `"` + s + `"`
	text, _ := On(q).Quoted()
	apart(t, "Quoted", q, text)
}

// TestJoinWritesNothing: neither into its list nor behind it.
func TestJoinWritesNothing(t *testing.T) {
	all := []string{"a", "b", "c", "d"}
	if got := Join(all[1:3]); got != "b, c" {
		t.Errorf("Join = %q; want %q", got, "b, c")
	}
	if !slices.Equal(all, []string{"a", "b", "c", "d"}) {
		t.Errorf("Join left %q", all)
	}
}

// TestListIsTheCallers: what is done to an answer isn't seen in the next one.
func TestListIsTheCallers(t *testing.T) {
	first, _ := List("a, b")
	first[0], first = "x", append(first[:1], "y", "z")
	wantList(t, "a, b", []string{"a", "b"}, api.OK, -1)
}

func FuzzToken(f *testing.F) {
	for _, s := range []string{"", "a", `"a\"b"`, "a, b", "a b", `"\`, "\t\"\xff\""} {
		f.Add(s)
	}
	f.Fuzz(func(t *testing.T, s string) {
		if got, want := Is(s), ruleIs(s); got != want {
			t.Errorf("Is(%q) = %v; want %v", s, got, want)
		}
		want, ok := ruleQuote(s)
		wantQuote(t, s, want, ok)
		for at := range min(len(s), 100) {
			text, size, ok := ruleQuoted(s[at:])
			wantQuoted(t, s, at, text, at+size, ok)
		}
		words, e, place := ruleList(s)
		wantList(t, s, words, e, place)
	})
}

package fetch

import (
	"fmt"
	"math"
	"slices"
	"strings"
	"testing"
	"unsafe"

	"gatepost/api"
)

var (
	simpleMethods = []string{"GET", "HEAD", "POST"}
	knownMethods  = []string{"DELETE", "GET", "HEAD", "OPTIONS", "POST", "PUT"}
	plainNames    = []string{"accept", "accept-language", "content-language", "content-type"}
	formTypes     = []string{"application/x-www-form-urlencoded", "multipart/form-data", "text/plain"}
)

func one(c int) string { return string([]byte{byte(c)}) }

// mixed are all ways to write a text of letters with great and small ones.
func mixed(s string) []string {
	l := []string{""}
	for i := range len(s) {
		var next []string
		for _, ahead := range l {
			next = append(next, ahead+strings.ToLower(s[i:i+1]))
			if up := strings.ToUpper(s[i : i+1]); up != strings.ToLower(s[i:i+1]) {
				next = append(next, ahead+up)
			}
		}
		l = next
	}
	return l
}

// someMixed are a text in small letters, in great ones, and with each letter alone great.
func someMixed(s string) []string {
	l := []string{strings.ToLower(s), strings.ToUpper(s)}
	for i := range len(s) {
		l = append(l, strings.ToLower(s[:i])+strings.ToUpper(s[i:i+1])+strings.ToLower(s[i+1:]))
	}
	return l
}

func wantSimple(t *testing.T, method string, want bool) {
	t.Helper()
	if got := Simple(method); got != want {
		t.Errorf("Simple(%.100q) = %v; want %v", method, got, want)
	}
}

func wantMethod(t *testing.T, s, want string) {
	t.Helper()
	if got := Method(s); got != want {
		t.Errorf("Method(%.100q) = %.100q; want %.100q", s, got, want)
	}
}

func wantPlain(t *testing.T, name, value string, want bool) {
	t.Helper()
	if got := Plain(api.Param{Name: name, Value: value}); got != want {
		t.Errorf("Plain(%.100q: %.200q, of %d bytes) = %v; want %v", name, value, len(value), got, want)
	}
}

func wantAsked(t *testing.T, l []api.Param, want ...string) {
	t.Helper()
	if got := Asked(l); !slices.Equal(got, want) {
		t.Errorf("Asked(%.600q) = %.600q; want %.600q", l, got, want)
	}
}

func wantRight(t *testing.T, r api.Request, want bool) {
	t.Helper()
	if got := Right(r); got != want {
		t.Errorf("Right(partition %d, %.100q, %d heads: %.300q) = %v; want %v", r.Part, r.Method, len(r.Heads), r.Heads, got, want)
	}
}

// 8.1

func TestSimple(t *testing.T) {
	for _, m := range simpleMethods {
		for _, s := range mixed(m) {
			wantSimple(t, s, s == m)
		}
		for _, s := range []string{" " + m, m + " ", "\t" + m, m + "\x00", m + "\n", m + m, m[1:], m[:2], m + "," + m} {
			wantSimple(t, s, false)
		}
	}
	for _, s := range []string{"DELETE", "OPTIONS", "PUT", "delete", "options", "put", "Put", "PATCH", "patch", "CONNECT", "TRACE", "", " ", "*", "\x00", "G", "GE", "G\xffT", "GET HEAD", "é", "ＧＥＴ"} {
		wantSimple(t, s, false)
	}
}

// TestMethodKnown: each of the six, in great letters, in small ones, and mixed in all ways.
func TestMethodKnown(t *testing.T) {
	for _, m := range knownMethods {
		wantMethod(t, m, m)
		wantMethod(t, strings.ToLower(m), m)
		for _, s := range mixed(m) {
			wantMethod(t, s, m)
		}
	}
}

// TestMethodOther: what is none of them stays as it is.
func TestMethodOther(t *testing.T) {
	for _, s := range []string{
		"patch", "PATCH", "Patch", "connect", "CONNECT", "trace", "Trace", "x", "X", "", " ", "\t", "*", "\x00", "\xff", "a b", "é", "É",
		"po\u017ft", "PO\u017fT", "option\u017f", "ＧＥＴ", // letters that other ways to fold take for these
		"GE", "ge", "gett", "getget", "get,put", "del", "delet", "deletes", "option", "pu", "putt", "hea", "G\x45\x00T", "g-et", "g et",
		"\x67\x25\x74", "\x07et", "@et", "`et", "{et", "[et", "\xc7\xc5\xd4", strings.Repeat("get", 1000),
	} {
		wantMethod(t, s, s)
	}
	for _, m := range knownMethods {
		for _, s := range []string{m, strings.ToLower(m)} {
			for _, x := range []string{" " + s, s + " ", "\t" + s, s + "\t", "\n" + s, s + "\n", "\x00" + s, s + "\x00", s + ",", s[1:], s[:len(s)-1]} {
				wantMethod(t, x, x)
			}
		}
	}
}

// 8.2: Plain

// TestPlainNames: each of the four, its letters great or small, and no other name.
func TestPlainNames(t *testing.T) {
	// A Value that each of the four may have but for content-type, and one that this may have.
	for i, name := range plainNames {
		for _, s := range someMixed(name) {
			wantPlain(t, s, "en", i < 3)
			wantPlain(t, s, "text/plain", i == 0 || i == 3)
			for _, x := range []string{" " + s, s + " ", "\t" + s, s + ":", s + "\x00", "x-" + s, s + "-x", s[1:], s[:len(s)-1], s + s} {
				wantPlain(t, x, "en", false)
				wantPlain(t, x, "text/plain", false)
			}
		}
	}
	for _, name := range []string{
		"", " ", "-", "*", "x", "X-A", "authorization", "Authorization", "cookie", "origin", "host", "range", "accept-encoding", "accept-charset", "content-length", "content-encoding", "content", "language", "type", "accept_language", "accept language", "acceptlanguage", "contenttype", "content--type",
		"\xff", "äccept", "accept-lan\u0261uage", "ＡＣＣＥＰＴ", "accept\u00ad",
	} {
		for _, value := range []string{"", "en", "text/plain", "*", " "} {
			wantPlain(t, name, value, false)
		}
	}
}

// TestPlainLengths: each length up to some, of each of the four.
func TestPlainLengths(t *testing.T) {
	for n := range 300 {
		fits := n <= 128
		for _, name := range []string{"accept", "Accept-Language", "content-language"} {
			wantPlain(t, name, strings.Repeat("v", n), fits)
			wantPlain(t, name, strings.Repeat(" ", n), fits)
		}
		wantPlain(t, "Content-Type", strings.Repeat("v", n), false)
		for _, kind := range formTypes {
			if n < len(kind) {
				continue
			}
			rest := n - len(kind)
			wantPlain(t, "Content-Type", strings.Repeat(" ", rest)+kind, fits)
			wantPlain(t, "Content-Type", kind+strings.Repeat("\t", rest), fits)
			if rest > 0 {
				wantPlain(t, "Content-Type", kind+";"+strings.Repeat("v", rest-1), fits)
			}
		}
	}
	// Bytes are counted, not letters.
	wantPlain(t, "accept", strings.Repeat("é", 64), true)
	wantPlain(t, "accept", strings.Repeat("é", 64)+"v", false)
	for _, name := range plainNames {
		wantPlain(t, name, strings.Repeat("v", 100_000), false)
		wantPlain(t, name, "text/plain;"+strings.Repeat("v", 100_000), false)
	}
}

// safe and tongue say of each byte what the document says, told one by one.
func safe(c int) bool {
	switch c {
	case 9:
		return true
	case 34, 40, 41, 58, 60, 62, 63, 64, 91, 92, 93, 123, 125, 127:
		return false
	}
	return c >= 32
}

func tongue(c int) bool {
	switch c {
	case 32, 42, 44, 45, 46, 59, 61:
		return true
	}
	return 48 <= c && c <= 57 || 65 <= c && c <= 90 || 97 <= c && c <= 122
}

// TestPlainEachByte: each byte in each of the four's Values: alone, ahead of others, between them and behind.
func TestPlainEachByte(t *testing.T) {
	for c := range 256 {
		b := one(c)
		for _, s := range []string{b, b + b, b + "en", "en" + b, "e" + b + "n", b + strings.Repeat("v", 127), strings.Repeat("v", 127) + b, strings.Repeat("v", 64) + b + strings.Repeat("v", 63)} {
			wantPlain(t, "accept", s, safe(c))
			wantPlain(t, "ACCEPT", s, safe(c))
			wantPlain(t, "accept-language", s, tongue(c))
			wantPlain(t, "Accept-Language", s, tongue(c))
			wantPlain(t, "content-language", s, tongue(c))
			wantPlain(t, "content-type", s, false)
		}
		for _, kind := range formTypes {
			for _, s := range []string{kind + ";" + b, kind + ";" + b + "v", kind + ";v" + b + "v", kind + ";v" + b, kind + ";;" + b, kind + " ; " + b} {
				wantPlain(t, "content-type", s, safe(c))
				wantPlain(t, "Content-Type", s, safe(c))
			}
			about := c == ' ' || c == '\t'
			wantPlain(t, "content-type", b+kind, about)
			wantPlain(t, "content-type", kind+b, about || c == ';')
			wantPlain(t, "content-type", " "+b+kind+"\t", about)
			wantPlain(t, "content-type", "\t"+kind+b+" ;v", about || c == ';')
			wantPlain(t, "content-type", kind[:3]+b+kind[3:], false)
		}
	}
}

// TestPlainTypes: each of the three, with all that may stand about it.
func TestPlainTypes(t *testing.T) {
	blanks := []string{"", " ", "\t", "  ", " \t ", "\t\t"}
	behind := []string{"", ";", "; charset=utf-8", ";charset=UTF-8; a=b", ";;", ";;;", "; ", ";\t", " ;x", ";text/html", "; text/html;", ";,", ";/", ";é", ";'"}
	for _, kind := range formTypes {
		for _, k := range someMixed(kind) {
			for _, ahead := range blanks {
				for _, b := range blanks {
					for _, rest := range behind {
						wantPlain(t, "Content-Type", ahead+k+b+rest, true)
					}
				}
			}
		}
		for _, rest := range []string{`;a="b"`, `; boundary="`, ";a:b", ";(", ";)", ";<", ";>", ";?", ";@", ";[", `;\`, ";]", ";{", ";}", ";\x00", ";\n", ";\r", ";\x1f", ";\x7f", "\n", "\r", "\v", "\f", "\x00", "\x7f"} {
			wantPlain(t, "Content-Type", kind+rest, false)
			wantPlain(t, "Content-Type", strings.ToUpper(kind)+rest, false)
			wantPlain(t, "Content-Type", kind+";a=b"+rest, false)
		}
	}
}

// TestPlainOtherTypes: no other type, and none at all.
func TestPlainOtherTypes(t *testing.T) {
	for _, s := range []string{
		"", " ", "\t", ";", " ; ", ";;", ";text/plain", " ;text/plain", ";;text/plain", "/", "text", "text/", "/plain", "plain", "text/*", "*/*", "text/html", "text/xml", "application/json", "application/x-www-form-urlencode", "application/x-www-form", "multipart/mixed", "multipart/form", "multipart/form-dat",
		"text /plain", "text/ plain", "text\t/plain", "text//plain", "text/plain/", "text/plain,", "text/plain, text/plain", "text/plain,text/html", "text/plain text/plain", "text/plain a;", "text/plainx", "xtext/plain", ",text/plain", "text/html;text/plain", "text/html; text/plain", "'text/plain'", "text-plain", "text/pla\u0131n", "\u00a0text/plain", "text/plain\u00a0", "te\u017ft/plain",
	} {
		wantPlain(t, "content-type", s, false)
		wantPlain(t, "Content-Type", s, false)
	}
}

func TestPlainValues(t *testing.T) {
	for _, c := range []struct {
		value          string
		accept, tongue bool
	}{
		{"", true, true}, {" ", true, true}, {"\t", true, false}, {"*", true, true}, {"en", true, true}, {"en-US,en;q=0.9, de;q=0.5, *;q=0.1", true, true},
		{"text/html, application/xml;q=0.9, */*;q=0.8", true, false}, {"en_US", true, false}, {"en/de", true, false}, {"en+de", true, false}, {"a\tb", true, false}, {"é", true, false}, {"\xff\x80", true, false}, {"~|^`'&%$#!", true, false},
		{"a(b)", false, false}, {`"en"`, false, false}, {"a:b", false, false}, {"a\x00", false, false}, {"en\n", false, false}, {"en\r\n", false, false}, {"\x7f", false, false},
	} {
		wantPlain(t, "Accept", c.value, c.accept)
		wantPlain(t, "Accept-Language", c.value, c.tongue)
		wantPlain(t, "Content-Language", c.value, c.tongue)
	}
}

// 8.2: Asked

// heads are headers: a name and a value, again and again.
func heads(l ...string) (out []api.Param) {
	for i := 0; i < len(l); i += 2 {
		out = append(out, api.Param{Name: l[i], Value: l[i+1]})
	}
	return out
}

func TestAsked(t *testing.T) {
	wantAsked(t, nil)
	wantAsked(t, []api.Param{})
	for _, c := range []struct {
		l    []api.Param
		want string
	}{
		{heads("Accept", "a"), ""},
		{heads("Accept", "a", "ACCEPT-LANGUAGE", "en", "content-language", "", "Content-Type", "text/plain"), ""},
		{heads("accept", "("), "accept"},
		{heads("Content-Type", "text/html"), "content-type"},
		{heads("CONTENT-LANGUAGE", "é"), "content-language"},
		{heads("X-A", ""), "x-a"},
		{heads("Authorization", "Basic x"), "authorization"},
		{heads("X-A", "1", "X-A", "2"), "x-a"},
		{heads("X-A", "1", "x-a", "1", "X-a", "1"), "x-a"},
		{heads("X-A", "1", "y", "", "x-a", "2"), "x-a y"},
		{heads("c", "", "b", "", "a", ""), "a b c"},
		{heads("b", "", "C", "", "a", "", "B", "", "c", "", "A", ""), "a b c"},
		{heads("Z", "", "a", ""), "a z"}, // by small letters
		{heads("_", "", "A", ""), "_ a"}, // which stand behind these signs
		{heads("a", "", "aa", "", "a-", "", "a!", ""), "a a! a- aa"},
		{heads("x10", "", "x9", "", "X1", ""), "x1 x10 x9"},
		{heads("Accept", "a", "X-A", ""), "x-a"},
		{heads("X-A", "", "Accept", "a", "Accept-Language", "en"), "x-a"},
		// One name, once Plain and once not.
		{heads("Accept", "a", "accept", "("), "accept"},
		{heads("accept", "(", "Accept", "a"), "accept"},
		{heads("Accept", "(", "accept", "("), "accept"},
		{heads("Content-Type", "text/plain", "content-type", "text/html", "X", ""), "content-type x"},
	} {
		wantAsked(t, c.l, strings.Fields(c.want)...)
	}
}

// TestAskedNames: a name is asked for, whatever it is.
func TestAskedNames(t *testing.T) {
	wantAsked(t, heads("", ""), "")
	wantAsked(t, heads("b", "", "", "", "a", "", "", "x"), "", "a", "b")
	wantAsked(t, heads("A b", "", " a", "", "a ", "", "A", ""), " a", "a", "a ", "a b")
	wantAsked(t, heads("\xff", "", "z", "", "\x00", "", "É", "", "\x80", ""), "\x00", "z", "\x80", "É", "\xff")
	for c := range 256 {
		wantAsked(t, heads(one(c), ""), lower(one(c)))
	}
}

// together is Values of so many bytes, each one of a Plain header.
func together(n int) (l []api.Param) {
	for i := 0; n > 0; i++ {
		size := min(n, 128)
		l = append(l, api.Param{Name: []string{"Accept", "content-LANGUAGE", "accept-language"}[i%3], Value: strings.Repeat("v", size)})
		n -= size
	}
	return l
}

// TestAskedTogether: the Values of those that are Plain, and no other bytes, are counted.
func TestAskedTogether(t *testing.T) {
	plain := []string{"accept", "accept-language", "content-language"}
	for n := 1000; n <= 1050; n++ {
		l := together(n)
		var want []string
		if n > 1024 {
			want = plain
		}
		wantAsked(t, l, want...)
		// Beside them others that aren't Plain, of few bytes and of many.
		for _, value := range []string{"", "v", strings.Repeat("v", 5000)} {
			all := append(slices.Clone(want), "x-a")
			wantAsked(t, append(slices.Clone(l), heads("X-A", value)...), all...)
			wantAsked(t, append(heads("x-a", value), l...), all...)
			wantAsked(t, slices.Concat(heads("x-a", value), l, heads("X-A", value, "x-A", value)), all...)
		}
		// Empty Plain ones add their names, but no bytes.
		if n > 1024 {
			want = append(slices.Clone(plain), "content-type")
		}
		wantAsked(t, append(heads("Content-Type", "text/plain", "Accept", ""), together(n-10)...), want...)
	}
	wantAsked(t, together(1023))
	wantAsked(t, together(1024))
	wantAsked(t, together(1025), plain...)
	wantAsked(t, together(100_000), plain...)
}

// TestAskedNotPlainDoesNotCount: Values of many bytes that aren't Plain don't let the others be asked for.
func TestAskedNotPlainDoesNotCount(t *testing.T) {
	long := strings.Repeat("v", 2000)
	wantAsked(t, heads("X-A", long, "Accept", "a"), "x-a")
	wantAsked(t, heads("Accept", long, "accept-language", "en"), "accept")
	wantAsked(t, append(together(1024), heads("accept", "(", "y", long, "Content-Type", "v")...), "accept", "content-type", "y")
	wantAsked(t, append(together(1025), heads("y", long, "Content-Type", "v")...), "accept", "accept-language", "content-language", "content-type", "y")
}

// 8.2: Right

func request(part int, method string, names ...string) api.Request {
	r := api.Request{Part: part, Method: method}
	for _, name := range names {
		r.Heads = append(r.Heads, api.Param{Name: name})
	}
	return r
}

func TestRightPart(t *testing.T) {
	for _, part := range []int{0, 1, 2, 3} {
		wantRight(t, request(part, "GET"), true)
		wantRight(t, request(part, ""), false)
		wantRight(t, request(part, "GET", "a b"), false)
	}
	for _, part := range []int{-1, 4, 5, -4, 100, 1 << 32, 1<<32 + 1, -1 << 32, math.MaxInt, math.MinInt} {
		wantRight(t, request(part, "GET"), false)
		wantRight(t, request(part, "GET", "X-A"), false)
	}
	if api.MaxParts != 4 {
		t.Errorf("MaxParts = %d", api.MaxParts)
	}
}

func TestRightWords(t *testing.T) {
	for _, s := range []string{"GET", "get", "PATCH", "x", "X-A", "content-type", "!#$%&'*+-.^_`|~", "0", "*", strings.Repeat("x", 10_000)} {
		wantRight(t, request(0, s), true)
		wantRight(t, request(3, "GET", s), true)
		wantRight(t, request(0, s, s, s), true)
	}
	for _, s := range []string{"", " ", "a b", " a", "a ", "\ta", "a\t", "a\n", "a\x00", "a:", "a,b", "a/b", `"a"`, "a=b", "(a)", "a;", "a@b", "[a", "a]", "{a}", "<a>", "a?", `a\`, "é", "\xff", "\x7f"} {
		wantRight(t, request(0, s), false)
		wantRight(t, request(0, "GET", s), false)
		wantRight(t, request(0, s, s), false)
		// The first one, one between, the last one.
		for i := range 5 {
			wantRight(t, request(0, "GET", slices.Insert([]string{"a", "b", "c", "d"}, i, s)...), false)
		}
	}
	for c := range 256 {
		is := wordForm.MatchString(runes(one(c)))
		for _, s := range []string{one(c), "a" + one(c), one(c) + "a", "a" + one(c) + "a"} {
			wantRight(t, request(0, s), is)
			wantRight(t, request(0, "GET", s), is)
		}
	}
}

// TestRightMany: up to MaxList Heads, alike or not.
func TestRightMany(t *testing.T) {
	for n := range 100 {
		alike, others := request(0, "GET", slices.Repeat([]string{"a"}, n)...), request(1, "GET")
		for i := range n {
			others.Heads = append(others.Heads, api.Param{Name: fmt.Sprint("x-", i), Value: "v"})
		}
		wantRight(t, alike, n <= 40)
		wantRight(t, others, n <= 40)
		if n > 0 {
			others.Heads[n-1].Name = ""
			wantRight(t, others, false)
		}
	}
	if api.MaxList != 40 {
		t.Errorf("MaxList = %d", api.MaxList)
	}
}

// TestRightNothingElse: Values, and all else of a request, don't matter.
func TestRightNothingElse(t *testing.T) {
	r := request(2, "patch")
	r.Heads = heads("Accept", "(\x00\n\xff", "x", strings.Repeat("v", 100_000), "y", "")
	wantRight(t, r, true)
	r.From = api.Origin{Host: "!", Port: -1}
	r.URL = api.URL{Path: "no", Query: " "}
	r.With, r.Body = true, "\x00"
	wantRight(t, r, true)
	wantRight(t, api.Request{}, false)
}

// P4

// apart asks that two texts share no memory.
func apart(t *testing.T, call, in, out string) {
	t.Helper()
	if in == "" || out == "" {
		t.Fatalf("%s(%q) = %q: nothing to hold against each other", call, in, out)
	}
	began, first := uintptr(unsafe.Pointer(unsafe.StringData(in))), uintptr(unsafe.Pointer(unsafe.StringData(out)))
	if first < began+uintptr(len(in)) && began < first+uintptr(len(out)) {
		t.Errorf("%s(%q) = %q: not fresh memory", call, in, out)
	}
}

func TestFreshMemory(t *testing.T) {
	for _, s := range []string{strings.Repeat("patch", 10), strings.Clone("put"), strings.Clone("PUT")} {
		apart(t, "Method", s, Method(s))
		l := Asked(heads(s, ""))
		if len(l) != 1 {
			t.Fatalf("Asked of %q = %q; want one name", s, l)
		}
		apart(t, "Asked", s, l[0])
	}
}

// TestWritesNothing: neither into a list nor behind it.
func TestWritesNothing(t *testing.T) {
	all := append(heads("Z", "1", "B", "2", "b", "3", "Accept", "4"), together(1100)...)
	before := slices.Clone(all)
	wantAsked(t, all[1:3], "b")
	wantAsked(t, all[:0])
	wantRight(t, api.Request{Method: "GET", Heads: all[1:3]}, true)
	Asked(all)
	if !slices.Equal(all, before) {
		t.Errorf("%q is left of %q", all, before)
	}
}

// TestAskedIsTheCallers: what is done to an answer isn't seen in the next one.
func TestAskedIsTheCallers(t *testing.T) {
	l := heads("b", "", "a", "")
	first := Asked(l)
	second := Asked(l)
	first[0], first = "x", append(first[:1], "y", "z")
	if !slices.Equal(second, []string{"a", "b"}) {
		t.Errorf("Asked = %q then; want a and b", second)
	}
	wantAsked(t, l, "a", "b")
}

package cors

import (
	"fmt"
	"slices"
	"strings"
	"testing"
	"unsafe"

	"gatepost/api"
	"gatepost/plain"
)

var (
	home  = api.Origin{Secure: true, Host: "a.test", Port: 443}
	other = api.Origin{Secure: true, Host: "b.test", Port: 443}
	goal  = api.URL{Origin: other, Path: "/a/b", Query: "q"}
)

func one(c int) string { return string([]byte{byte(c)}) }

// pairs are parameters: a name and a value, again and again.
func pairs(l ...string) (out []api.Param) {
	for i := 0; i < len(l); i += 2 {
		out = append(out, api.Param{Name: l[i], Value: l[i+1]})
	}
	return out
}

// ask is a request from home to the goal, of a method and headers' names, whose values nothing is Plain with.
func ask(with bool, method string, names ...string) api.Request {
	r := api.Request{Part: 1, From: home, URL: goal, Method: method, With: with}
	for _, name := range names {
		r.Heads = append(r.Heads, api.Param{Name: name, Value: "("})
	}
	return r
}

// answer is what a server says that lets home see it, with credentials or without, and beside it some fields.
func answer(l ...string) []api.Param {
	return append(pairs("Access-Control-Allow-Origin", "https://a.test", "Access-Control-Allow-Credentials", "true"), pairs(l...)...)
}

// methodPasses and headPasses are Passes of just that.
func methodPasses(l ...string) (out []api.Pass) {
	for _, s := range l {
		out = append(out, api.Pass{Method: s})
	}
	return out
}

func headPasses(l ...string) (out []api.Pass) {
	for _, s := range l {
		out = append(out, api.Pass{Head: s})
	}
	return out
}

// granted are the Passes of a request until some time: of methods, and of headers' names, blanks between.
func granted(r api.Request, until int, methods, heads string) (out []api.Pass) {
	for _, p := range append(methodPasses(strings.Fields(methods)...), headPasses(strings.Fields(heads)...)...) {
		p.From, p.URL, p.With, p.Until = r.From, r.URL, r.With, until
		out = append(out, p)
	}
	return out
}

// wantErr asks that an error came out as it is told, at its place (-1: without one).
func wantErr(t *testing.T, call string, err error, want api.Errno, at int) {
	t.Helper()
	if e, place := plain.Place(err); e != want || place != at {
		t.Errorf("%s: %v (place %d); want %v (place %d)", call, err, place, want, at)
	}
}

// wantFields asks Fields; with an error nothing is to stand beside it.
func wantFields(t *testing.T, s string, want []api.Param, e api.Errno, at int) {
	t.Helper()
	got, err := Fields(s)
	wantErr(t, fmt.Sprintf("Fields(%.300q)", s), err, e, at)
	if !slices.Equal(got, want) || e != api.OK && got != nil {
		t.Errorf("Fields(%.300q) = %.600q; want %.600q", s, got, want)
	}
}

func wantRead(t *testing.T, s string, want ...string) {
	t.Helper()
	wantFields(t, s, pairs(want...), api.OK, -1)
}

func wantLine(t *testing.T, s string, line int) {
	t.Helper()
	wantFields(t, s, nil, api.ErrForm, line)
}

func wantGet(t *testing.T, l []api.Param, name, want string, ok bool) {
	t.Helper()
	if got, is := Get(l, name); got != want || is != ok {
		t.Errorf("Get(%.300q, %.100q) = %.300q, %v; want %.300q, %v", l, name, got, is, want, ok)
	}
}

func wantMay(t *testing.T, r api.Request, l []api.Param, want bool) {
	t.Helper()
	if got := May(r, l); got != want {
		t.Errorf("May(from %+v, with %v, %.300q) = %v; want %v", r.From, r.With, l, got, want)
	}
}

func wantAge(t *testing.T, l []api.Param, want int) {
	t.Helper()
	if got := Age(l); got != want {
		t.Errorf("Age(%.300q) = %d; want %d", l, got, want)
	}
}

// wantGrant asks Grant; with an error, which has no place, nothing is to stand beside it.
func wantGrant(t *testing.T, r api.Request, l []api.Param, now int, want []api.Pass, e api.Errno) {
	t.Helper()
	got, err := Grant(r, l, now)
	call := fmt.Sprintf("Grant(%.300q, %.600q, %d)", fmt.Sprint(r), l, now)
	wantErr(t, call, err, e, -1)
	if !slices.Equal(got, want) || e != api.OK && got != nil {
		t.Errorf("%s = %+v; want %+v", call, got, want)
	}
}

func wantCovers(t *testing.T, r api.Request, l []api.Pass, want bool) {
	t.Helper()
	if got := Covers(r, l); got != want {
		t.Errorf("Covers(%.100q with %v, %.300q, %.600q) = %v; want %v", r.Method, r.With, r.Heads, fmt.Sprint(l), got, want)
	}
}

func wantNeeds(t *testing.T, r api.Request, want bool) {
	t.Helper()
	if got := Needs(r); got != want {
		t.Errorf("Needs(from %+v to %+v, %.100q, %.300q) = %v; want %v", r.From, r.URL.Origin, r.Method, r.Heads, got, want)
	}
}

// 9.1: Fields

// TestFieldsOfNothing: empty lines alone, however they end.
func TestFieldsOfNothing(t *testing.T) {
	for _, s := range []string{"", "\n", "\r\n", "\r", "\n\n", "\r\n\r\n", "\n\r\n", "\n\r", strings.Repeat("\n", 3000), strings.Repeat("\r\n", 1500)} {
		wantRead(t, s)
	}
}

// TestFieldsEnds: lines that end in byte 10, in 13 and 10, and last ones without an end.
func TestFieldsEnds(t *testing.T) {
	for _, end := range []string{"\n", "\r\n"} {
		for _, last := range []string{"", "\r", "\n", "\r\n", "\n\r\n", "\n\n\n"} {
			wantRead(t, "a:b"+last, "a", "b")
			wantRead(t, "a:b"+end+"c:d"+last, "a", "b", "c", "d")
			wantRead(t, end+"a:b"+end+end+"c:d"+end+"e:f"+last, "a", "b", "c", "d", "e", "f")
			wantRead(t, "a:"+end+"b:"+last, "a", "", "b", "")
		}
	}
	wantRead(t, "a:b\nc:d\r\ne:f", "a", "b", "c", "d", "e", "f")
}

// TestFieldsOneReturn: just one byte 13 is left out, and only at the very end of a line.
func TestFieldsOneReturn(t *testing.T) {
	wantRead(t, "a:b\r\r\n", "a", "b\r")
	wantRead(t, "a:b\r\r", "a", "b\r")
	wantRead(t, "a:\r\r\nb:", "a", "\r", "b", "")
	wantRead(t, "a:b\rc\n", "a", "b\rc")
	wantRead(t, "a:b\rc:d\r\n", "a", "b\rc:d")
	wantRead(t, "a:\rb", "a", "\rb")
	wantRead(t, "a: b \r\n", "a", "b")
	wantRead(t, "a: b\r \n", "a", "b\r")
	wantRead(t, "a: \r \r\n", "a", "\r")
	wantLine(t, "\r\r", 0)
	wantLine(t, "\r\r\n", 0)
	wantLine(t, "\n \r\n", 1)
	wantLine(t, "\ra:b", 0)
	wantLine(t, "a\r:b", 0)
	wantLine(t, "a:b\n\rc:d", 1)
}

// TestFieldsPlaces: which line it is, empty ones counted, too.
func TestFieldsPlaces(t *testing.T) {
	for _, wrong := range []string{"x", "abc", ":", ":b", "::", " ", "\t", " :b", " a:b", "\ta:b", "a :b", "a\t:b", "a b:c", "a,b:c", "a/b:c", `"a":b`, "é:b", "\x00:b", "a\x7f:b", "(a):b", "a;b: c", "{", "a=b"} {
		for _, end := range []string{"\n", "\r\n"} {
			wantLine(t, wrong, 0)
			wantLine(t, wrong+end, 0)
			wantLine(t, end+wrong, 1)
			wantLine(t, end+end+end+wrong+end, 3)
			wantLine(t, "a:b"+end+wrong, 1)
			wantLine(t, "a:b"+end+end+wrong+end+"c:d"+end, 2)
			wantLine(t, end+"a:b"+end+end+"c:d"+end+end+end+wrong, 6)
			wantLine(t, "a:b"+end+"c:d"+end+wrong+end+wrong, 2)
			wantLine(t, wrong+end+wrong+"?", 0)
		}
	}
	for n := range 1000 {
		wantLine(t, strings.Repeat("\n", n)+"x", n)
	}
}

// TestFieldsValues: the first colon ends the name; blanks and tabs about a value are left out, but no other bytes.
func TestFieldsValues(t *testing.T) {
	for _, c := range [][2]string{
		{"", ""}, {" ", ""}, {"\t", ""}, {" \t \t ", ""}, {"b", "b"}, {" b", "b"}, {"b ", "b"}, {"\tb\t", "b"}, {" \t b \t ", "b"}, {"b c", "b c"}, {" b \t c ", "b \t c"},
		{":", ":"}, {"::", "::"}, {" : ", ":"}, {"b:c", "b:c"}, {" b: c ", "b: c"}, {"https://a.test:444", "https://a.test:444"}, {" :b", ":b"},
		{"\x00", "\x00"}, {"\v", "\v"}, {" \fb\v ", "\fb\v"}, {"é", "é"}, {"\u00a0b\u00a0", "\u00a0b\u00a0"}, {"\u2003", "\u2003"}, {"\xff", "\xff"}, {"\x7f", "\x7f"}, {`"b"`, `"b"`}, {`" b "`, `" b "`}, {"b,", "b,"},
	} {
		wantRead(t, "a:"+c[0], "a", c[1])
		wantRead(t, "\r\nX-A:"+c[0]+"\r\n\r\nb:"+c[0]+"\n", "X-A", c[1], "b", c[1])
	}
}

// TestFieldsEachByte: each byte in a name, and in a value.
func TestFieldsEachByte(t *testing.T) {
	for c := range 256 {
		b := one(c)
		for _, s := range []string{b, b + ":", b + ":b", "a" + b + ":b", b + "a:b", "a" + b + "a:b", "a:" + b, "a:b" + b, "a:" + b + "b", "a:b" + b + "b", "a: " + b + " ", "a:b\n" + b, "a:b" + b + "c:d", b + b, "a" + b + "b"} {
			want, e, at := ruleFields(s)
			wantFields(t, s, want, e, at)
		}
	}
}

// TestFieldsNames: they stay as they are, and may be there more than once.
func TestFieldsNames(t *testing.T) {
	wantRead(t, "A:1\na:2\nA:1\n", "A", "1", "a", "2", "A", "1")
	wantRead(t, "!#$%&'*+-.^_`|~09azAZ:x", "!#$%&'*+-.^_`|~09azAZ", "x")
	wantRead(t, "Access-Control-Allow-Origin: *\r\nAccess-Control-Max-Age: 20\r\n\r\n", "Access-Control-Allow-Origin", "*", "Access-Control-Max-Age", "20")
}

// TestFieldsMany: MaxList lines, and one more; empty ones don't count.
func TestFieldsMany(t *testing.T) {
	rows := func(n int) (l []string) {
		for i := range n {
			l = append(l, "a", fmt.Sprint(i))
		}
		return l
	}
	text := func(l []string, end string) (s string) {
		for i := 0; i < len(l); i += 2 {
			s += l[i] + ": " + l[i+1] + end
		}
		return s
	}
	for _, end := range []string{"\n", "\r\n", "\n\n", "\r\n\n\r\n"} {
		for n := range 41 {
			wantRead(t, text(rows(n), end), rows(n)...)
			wantRead(t, end+strings.TrimSuffix(text(rows(n), end), end), rows(n)...)
		}
		for n := 41; n < 100; n++ {
			wantFields(t, text(rows(n), end), nil, api.ErrLimit, -1)
			wantFields(t, end+strings.TrimSuffix(text(rows(n), end), end), nil, api.ErrLimit, -1)
		}
	}
	if api.MaxList != 40 {
		t.Errorf("MaxList = %d", api.MaxList)
	}
}

// TestFieldsLong: MaxText bytes, and one more; all bytes count.
func TestFieldsLong(t *testing.T) {
	long := strings.Repeat("v", 2998)
	wantRead(t, "a:"+long, "a", long)
	wantFields(t, "a:"+long+"v", nil, api.ErrLimit, -1)
	wantRead(t, "a:"+long[1:]+"\n", "a", long[1:])
	wantRead(t, "a:"+long[2:]+"\r\n", "a", long[2:])
	wantFields(t, "a:"+long+"\n", nil, api.ErrLimit, -1)
	wantFields(t, "a:"+long+"\r", nil, api.ErrLimit, -1)
	wantFields(t, "a:"+long+" ", nil, api.ErrLimit, -1)
	wantFields(t, strings.Repeat("\n", 3001), nil, api.ErrLimit, -1)
	wantFields(t, strings.Repeat("a:b\n", 1_000_000), nil, api.ErrLimit, -1)
	// Bytes are counted, not letters.
	wantRead(t, "a:"+strings.Repeat("é", 1499), "a", strings.Repeat("é", 1499))
	wantFields(t, "a:"+strings.Repeat("é", 1499)+"v", nil, api.ErrLimit, -1)
	if api.MaxText != 3000 {
		t.Errorf("MaxText = %d", api.MaxText)
	}
}

// TestFieldsWhichError: of two the one that is told first.
func TestFieldsWhichError(t *testing.T) {
	full := strings.Repeat("a:b\n", 40)
	// Too long a text, whatever it says.
	wantLine(t, strings.Repeat("x", 3000), 0)
	wantFields(t, strings.Repeat("x", 3001), nil, api.ErrLimit, -1)
	wantFields(t, "x\n"+strings.Repeat("a:b\n", 800), nil, api.ErrLimit, -1)
	// A line that is wrong and one too many is wrong.
	wantLine(t, full+"x", 40)
	wantLine(t, full+"\n:b", 41)
	wantLine(t, full+"x\na:b", 40)
	// Of a right one that is too many and a wrong one the first one counts.
	wantFields(t, full+"a:b\nx", nil, api.ErrLimit, -1)
	wantFields(t, full+"\n\na:b\n\nx", nil, api.ErrLimit, -1)
	wantLine(t, "a:b\nx\n"+full, 1)
	wantLine(t, strings.Repeat("a:b\n", 39)+"x\na:b\na:b\n", 39)
}

// 9.1: Get

func TestGet(t *testing.T) {
	l := pairs("A", "1", "b", "2", "X-A", " 3 ", "a", "", "B-", "5", "A", "1,6")
	wantGet(t, l, "a", "1, , 1,6", true)
	wantGet(t, l, "A", "1, , 1,6", true)
	wantGet(t, l, "b", "2", true)
	wantGet(t, l, "B", "2", true)
	wantGet(t, l, "x-a", " 3 ", true)
	wantGet(t, l, "X-a", " 3 ", true)
	wantGet(t, l, "b-", "5", true)
	for _, name := range []string{"", "c", "x", "x-", "-a", "a ", " a", "aa", "x_a", "X-A:", "b\x00", "\u0391"} {
		wantGet(t, l, name, "", false)
		wantGet(t, nil, name, "", false)
		wantGet(t, l[:0], name, "", false)
	}
}

// TestGetEmpty: an empty value is there, alone or among others; a name may be empty.
func TestGetEmpty(t *testing.T) {
	wantGet(t, pairs("a", ""), "A", "", true)
	wantGet(t, pairs("a", "", "b", "x", "A", ""), "a", ", ", true)
	wantGet(t, pairs("a", "", "a", "", "a", ""), "a", ", , ", true)
	wantGet(t, pairs("a", "", "a", "1"), "a", ", 1", true)
	wantGet(t, pairs("a", "1", "a", ""), "a", "1, ", true)
	wantGet(t, pairs("", "x", "a", "y", "", "z"), "", "x, z", true)
}

// TestGetLetters: those of ASCII alone are the same, great or small.
func TestGetLetters(t *testing.T) {
	for a := range 256 {
		for b := range 256 {
			x, y := one(a), one(b)
			ok := ruleLower(x) == ruleLower(y)
			want := ""
			if ok {
				want = "v"
			}
			wantGet(t, pairs("n"+x, "v"), "N"+y, want, ok)
		}
	}
	wantGet(t, pairs("é", "1", "É", "2"), "é", "1", true)
	wantGet(t, pairs("\u017f", "1", "\u212a", "2"), "s", "", false)
	wantGet(t, pairs("\u017f", "1", "\u212a", "2"), "k", "", false)
}

func TestGetMany(t *testing.T) {
	l := pairs(slices.Repeat([]string{"a", "v", "b", "w"}, 20_000)...)
	wantGet(t, l, "A", strings.Repeat("v, ", 19_999)+"v", true)
	wantGet(t, l, "c", "", false)
}

// 9.2: May

func TestMay(t *testing.T) {
	for _, c := range []struct {
		l             []api.Param
		without, with bool
	}{
		{nil, false, false},
		{pairs("Access-Control-Allow-Credentials", "true"), false, false},
		{pairs("Access-Control-Allow-Origin", "*"), true, false},
		{pairs("access-control-allow-origin", "*", "access-control-allow-credentials", "true"), true, false},
		{pairs("Access-Control-Allow-Origin", "https://a.test"), true, false},
		{pairs("Access-Control-Allow-Origin", "https://a.test", "Access-Control-Allow-Credentials", "true"), true, true},
		{pairs("ACCESS-CONTROL-ALLOW-CREDENTIALS", "true", "x", "y", "ACCESS-control-ALLOW-origin", "https://a.test"), true, true},
		{pairs("Access-Control-Allow-Origin", "https://b.test", "Access-Control-Allow-Credentials", "true"), false, false},
		{pairs("Access-Control-Allow-Origin", "", "Access-Control-Allow-Credentials", "true"), false, false},
		{pairs("Access-Control-Allow-Origins", "*", "Access-Control-Allow-Credentials", "true"), false, false},
		// Told twice is told otherwise.
		{pairs("Access-Control-Allow-Origin", "*", "Access-Control-Allow-Origin", "*"), false, false},
		{pairs("Access-Control-Allow-Origin", "https://a.test", "Access-Control-Allow-Origin", "https://a.test", "Access-Control-Allow-Credentials", "true"), false, false},
		{pairs("Access-Control-Allow-Origin", "*", "Access-Control-Allow-Origin", "", "Access-Control-Allow-Credentials", "true"), false, false},
		{pairs("Access-Control-Allow-Origin", "https://a.test", "Access-Control-Allow-Credentials", "true", "Access-Control-Allow-Credentials", "true"), true, false},
	} {
		wantMay(t, ask(false, "GET"), c.l, c.without)
		wantMay(t, ask(true, "GET"), c.l, c.with)
	}
}

// TestMayOrigin: just the origin's own text, to the byte.
func TestMayOrigin(t *testing.T) {
	for _, s := range []string{"", "**", " *", "* ", "*,", "null", "a.test", "https://", "http://a.test", "https://a.test/", "https://a.test:443", "https://A.test", "HTTPS://a.test", " https://a.test", "https://a.test ", "https://a.test,", "https://a.test, https://a.test", "https://a.test https://b.test", "https://a.tes", "https://a.testt", "https://*", "https://x.a.test"} {
		for _, with := range []bool{false, true} {
			wantMay(t, ask(with, "GET"), pairs("Access-Control-Allow-Origin", s, "Access-Control-Allow-Credentials", "true"), false)
		}
	}
	for _, c := range []struct {
		from api.Origin
		text string
	}{
		{api.Origin{Secure: true, Host: "a.test", Port: 443}, "https://a.test"},
		{api.Origin{Secure: true, Host: "a.test", Port: 444}, "https://a.test:444"},
		{api.Origin{Secure: true, Host: "a.test", Port: 80}, "https://a.test:80"},
		{api.Origin{Secure: false, Host: "a.test", Port: 80}, "http://a.test"},
		{api.Origin{Secure: false, Host: "a.test", Port: 443}, "http://a.test:443"},
		{api.Origin{Secure: false, Host: "b.a.test", Port: 8080}, "http://b.a.test:8080"},
		// No right ones have their texts, too.
		{api.Origin{}, "http://:0"},
		{api.Origin{Secure: true, Host: "A, *", Port: -1}, "https://A, *:-1"},
	} {
		for _, with := range []bool{false, true} {
			r := ask(with, "GET")
			r.From = c.from
			wantMay(t, r, pairs("Access-Control-Allow-Origin", c.text), !with)
			wantMay(t, r, pairs("Access-Control-Allow-Origin", c.text, "Access-Control-Allow-Credentials", "true"), true)
			wantMay(t, r, pairs("Access-Control-Allow-Origin", c.text+"0", "Access-Control-Allow-Credentials", "true"), false)
			// Not where it goes, but where it comes from.
			r.From, r.URL.Origin = other, c.from
			wantMay(t, r, pairs("Access-Control-Allow-Origin", c.text, "Access-Control-Allow-Credentials", "true"), false)
		}
	}
}

// TestMayCredentials: `true` alone lets them be.
func TestMayCredentials(t *testing.T) {
	for _, s := range []string{"", "TRUE", "True", "truE", "tru", "truee", " true", "true ", "true,", "true, true", "1", "yes", "*", "false", `"true"`, "\ttrue"} {
		for _, o := range []string{"*", "https://a.test"} {
			l := pairs("Access-Control-Allow-Credentials", s, "Access-Control-Allow-Origin", o)
			wantMay(t, ask(false, "GET"), l, true)
			wantMay(t, ask(true, "GET"), l, false)
		}
	}
}

// TestMayNothingElse: what else is asked for doesn't matter.
func TestMayNothingElse(t *testing.T) {
	for _, with := range []bool{false, true} {
		r := ask(with, "patch", "X-A", "Authorization", "")
		wantMay(t, r, answer("Access-Control-Allow-Methods", "a b", "Access-Control-Allow-Headers", "(", "Access-Control-Max-Age", "x"), true)
		r.URL, r.Part, r.Body = api.URL{}, -1, "\x00"
		wantMay(t, r, answer(), true)
	}
}

// 9.2: Age

func TestAge(t *testing.T) {
	for _, c := range []struct {
		s    string
		want int
	}{
		{"0", 0}, {"1", 1}, {"4", 4}, {"5", 5}, {"6", 6}, {"20", 20}, {"599", 599}, {"600", 600}, {"601", 600}, {"1000", 600}, {"2147483648", 600}, {"4294967296", 600}, {"18446744073709551616", 600}, {"18446744073709551617", 600}, {strings.Repeat("9", 3000), 600},
		{"00", 0}, {"007", 7}, {"0000000600", 600}, {strings.Repeat("0", 100) + "8", 8},
		{"", 5}, {" ", 5}, {"x", 5}, {"-1", 5}, {"-0", 5}, {"+1", 5}, {"1.5", 5}, {"1e2", 5}, {"0x10", 5}, {"1_0", 5}, {" 1", 5}, {"1 ", 5}, {"1s", 5}, {"5, 6", 5}, {"20,", 5}, {"٢", 5}, {"\x00", 5}, {`"20"`, 5}, {"20\r", 5},
	} {
		for _, name := range []string{"Access-Control-Max-Age", "access-control-max-age", "ACCESS-CONTROL-MAX-AGE"} {
			wantAge(t, pairs(name, c.s), c.want)
			wantAge(t, pairs("a", "b", name, c.s, "Age", "7"), c.want)
		}
		wantAge(t, pairs("Access-Control-Max-Age", c.s, "access-control-max-age", "30"), 5)
		wantAge(t, pairs("Access-Control-Max-Ag", c.s, "Max-Age", c.s, "x", c.s), 5)
	}
	wantAge(t, nil, 5)
	wantAge(t, pairs("", "20"), 5)
	if api.MaxAge != 600 || api.NoAge != 5 {
		t.Errorf("MaxAge = %d, NoAge = %d", api.MaxAge, api.NoAge)
	}
}

// TestAgeEach: each number up to some.
func TestAgeEach(t *testing.T) {
	for n := range 2000 {
		want := n
		if n > 600 {
			want = 600
		}
		wantAge(t, pairs("Access-Control-Max-Age", fmt.Sprint(n)), want)
	}
}

// 9.2: Grant

func TestGrant(t *testing.T) {
	for _, with := range []bool{false, true} {
		r := ask(with, "patch", "X-A", "Y")
		for _, c := range []struct{ methods, heads, wantMethods, wantHeads string }{
			{"patch", "x-a,y", "patch", "x-a y"},
			{"PUT, patch", "Y, X-A", "PUT patch", "y x-a"},
			{"patch, put, PUT, Put", "x-b, Y, x-c, x-a", "patch put PUT Put", "x-b y x-c x-a"}, // methods stay as they are
			{" ,patch,\t,", ",y ,, x-a\t", "patch", "y x-a"},
			{"patch, PUT, patch, patch, PUT", "y, x-a, y, y, x-a", "patch PUT", "y x-a"}, // each once
			{"b, a, patch, A, a, b", "z, Y, X-a, y, x-A, Z", "b a patch A", "z y x-a"},
			{"patch, *", "x-a, *, y", "patch *", "x-a * y"}, // * is kept as it is
			{"*, patch, *", "*, y, x-a, authorization, *", "* patch", "* y x-a authorization"},
			{"patch, x-a", "patch, x-a, y", "patch x-a", "patch x-a y"}, // a name that is in both stands in both
			{"", "x-a,y", "patch", "x-a y"},                             // of none: the request's own
			{",,", "x-a,y", "patch", "x-a y"},
		} {
			l := answer("Access-Control-Allow-Methods", c.methods, "access-control-allow-headers", c.heads, "Access-Control-Max-Age", "20")
			wantGrant(t, r, l, 100, granted(r, 120, c.wantMethods, c.wantHeads), api.OK)
			slices.Reverse(l)
			wantGrant(t, r, l, 0, granted(r, 20, c.wantMethods, c.wantHeads), api.OK)
		}
	}
}

// TestGrantOfNone: without a list of methods the request's own one is allowed, as it is sent; without one of headers none is.
func TestGrantOfNone(t *testing.T) {
	for _, c := range [][2]string{{"GET", "GET"}, {"get", "GET"}, {"Put", "PUT"}, {"dELETE", "DELETE"}, {"options", "OPTIONS"}, {"patch", "patch"}, {"Patch", "Patch"}, {"*", "*"}, {"a b", "a b"}, {"", ""}, {"é", "é"}} {
		for _, with := range []bool{false, true} {
			r := ask(with, c[0])
			want := []api.Pass{{From: home, URL: goal, With: with, Method: c[1], Until: 12}}
			wantGrant(t, r, answer(), 7, want, api.OK)
			wantGrant(t, r, answer("Access-Control-Allow-Methods", "", "Access-Control-Allow-Headers", ""), 7, want, api.OK)
			wantGrant(t, r, answer("Access-Control-Allow-Methods", " ,\t,", "Access-Control-Allow-Headers", ","), 7, want, api.OK)
			want = append(want, api.Pass{From: home, URL: goal, With: with, Head: "x", Until: 12})
			wantGrant(t, r, answer("Access-Control-Allow-Headers", "X"), 7, want, api.OK)
			wantGrant(t, ask(with, c[0], "x-a"), answer(), 7, nil, api.ErrState)
		}
	}
}

// TestGrantForm: a list that can't be read, in either field or both, with May and without; no place is told.
func TestGrantForm(t *testing.T) {
	for _, s := range []string{"a b", "PUT patch", "(", "a,(", "a;b", `"PUT"`, "a=b", "é", "\x00", "a\n", "a\r", strings.Repeat("PUT,", 41), strings.Repeat("PUT,", 41) + "="} {
		for _, with := range []bool{false, true} {
			for _, ahead := range [][]api.Param{answer(), nil, pairs("Access-Control-Allow-Origin", "https://b.test"), pairs("Access-Control-Allow-Origin", "*")} {
				for _, r := range []api.Request{ask(with, "GET"), ask(with, "PUT", "x-a")} {
					for _, l := range [][]api.Param{
						pairs("Access-Control-Allow-Methods", s),
						pairs("Access-Control-Allow-Headers", s),
						pairs("Access-Control-Allow-Methods", s, "Access-Control-Allow-Headers", s),
						pairs("Access-Control-Allow-Methods", "PUT", "Access-Control-Allow-Headers", s),
						pairs("Access-Control-Allow-Headers", "x-a", "Access-Control-Allow-Methods", s),
						pairs("access-control-allow-METHODS", "PUT", "Access-Control-Allow-Methods", s),
						pairs("Access-Control-Allow-Headers", s, "access-CONTROL-allow-headers", "x-a"),
					} {
						wantGrant(t, r, append(slices.Clone(ahead), l...), 1, nil, api.ErrForm)
					}
				}
			}
		}
	}
}

// TestGrantTwoFields: a list may be told in pieces, of MaxList words in all.
func TestGrantTwoFields(t *testing.T) {
	r := ask(false, "patch", "x-a")
	l := answer("Access-Control-Allow-Methods", "PUT", "Access-Control-Allow-Headers", "b", "access-control-allow-methods", "patch, PUT", "access-control-allow-headers", "X-A,B")
	wantGrant(t, r, l, 1, granted(r, 6, "PUT patch", "b x-a"), api.OK)
	var words []string
	for i := range 40 {
		words = append(words, fmt.Sprint("w", i))
	}
	all := strings.Join(words, " ")
	r = ask(false, "w39", "W0", "w20")
	list := strings.Join(words, ",")
	wantGrant(t, r, answer("Access-Control-Allow-Methods", list, "Access-Control-Allow-Headers", list), 1, granted(r, 6, all, all), api.OK)
	wantGrant(t, r, answer("Access-Control-Allow-Methods", list, "Access-Control-Allow-Headers", list, "Access-Control-Allow-Methods", ""), 1, granted(r, 6, all, all), api.OK)
	wantGrant(t, r, answer("Access-Control-Allow-Methods", list, "Access-Control-Allow-Headers", list, "Access-Control-Allow-Methods", "w0"), 1, nil, api.ErrForm)
	wantGrant(t, r, answer("Access-Control-Allow-Methods", list, "Access-Control-Allow-Headers", list, "Access-Control-Allow-Headers", "w0"), 1, nil, api.ErrForm)
}

// TestGrantState: what may not be seen, or doesn't cover the request.
func TestGrantState(t *testing.T) {
	all := pairs("Access-Control-Allow-Methods", "*, PUT, patch", "Access-Control-Allow-Headers", "*, x-a, authorization", "Access-Control-Max-Age", "20")
	for _, with := range []bool{false, true} {
		for _, o := range []string{"", "null", "https://b.test", "https://a.test:444", "https://a.test, *"} {
			wantGrant(t, ask(with, "GET"), append(pairs("Access-Control-Allow-Origin", o, "Access-Control-Allow-Credentials", "true"), all...), 1, nil, api.ErrState)
		}
		wantGrant(t, ask(with, "GET"), all, 1, nil, api.ErrState)
		wantGrant(t, ask(with, "GET"), nil, 1, nil, api.ErrState)
	}
	r := ask(false, "PUT", "X-A")
	wantGrant(t, r, append(pairs("Access-Control-Allow-Origin", "*"), all...), 1, granted(r, 21, "* PUT patch", "* x-a authorization"), api.OK)
	r.With = true
	wantGrant(t, r, append(pairs("Access-Control-Allow-Origin", "*"), all...), 1, nil, api.ErrState)
	wantGrant(t, r, append(pairs("Access-Control-Allow-Origin", "*", "Access-Control-Allow-Credentials", "true"), all...), 1, nil, api.ErrState)
	wantGrant(t, r, append(pairs("Access-Control-Allow-Origin", "https://a.test"), all...), 1, nil, api.ErrState)
	wantGrant(t, r, append(answer(), all...), 1, granted(r, 21, "* PUT patch", "* x-a authorization"), api.OK)
}

// TestGrantCovers: an answer that may be seen, but doesn't allow the method, or a header.
func TestGrantCovers(t *testing.T) {
	for _, c := range []struct {
		method, names, methods, heads string
		without, with                 bool
	}{
		{"PUT", "", "PUT", "", true, true}, {"put", "", "PUT", "", true, true}, {"PUT", "", "put", "", false, false}, {"put", "", "put", "", false, false}, // put is sent as PUT
		{"patch", "", "patch", "", true, true}, {"patch", "", "PATCH", "", false, false}, {"PATCH", "", "patch", "", false, false},
		{"PUT", "", "DELETE", "", false, false}, {"PUT", "", "GET", "", false, false}, {"PUT", "", "*", "", true, false}, {"PUT", "", "*, PUT", "", true, true},
		{"GET", "", "PUT", "", true, true}, {"head", "", "PUT", "", true, true}, {"pOSt", "", "*", "", true, true},
		{"GET", "X-A", "", "", false, false}, {"GET", "X-A", "", "x-a", true, true}, {"GET", "x-a", "", "X-A", true, true}, {"GET", "x-a", "", "x-b", false, false}, {"GET", "x-a x-b", "", "x-b", false, false}, {"GET", "x-a x-b", "", "x-b,x-a", true, true},
		{"GET", "x-a", "", "*", true, false}, {"GET", "x-a x-b", "", "x-b, *", true, false}, {"GET", "x-a x-b", "", "*,x-b,X-A", true, true},
		{"GET", "authorization", "", "*", false, false}, {"GET", "Authorization", "", "AUTHORIZATION", true, true}, {"GET", "authorization x", "", "*, x", false, false}, {"GET", "authorization x", "", "*, authorization", true, false}, {"GET", "authorization x", "", "x, authorization", true, true},
		{"PUT", "x-a", "x-a", "PUT", false, false}, {"PUT", "x-a", "*", "", false, false}, {"PUT", "x-a", "GET", "*", false, false}, {"PUT", "x-a", "*", "*", true, false},
	} {
		for _, with := range []bool{false, true} {
			r := ask(with, c.method, strings.Fields(c.names)...)
			got, err := Grant(r, answer("Access-Control-Allow-Methods", c.methods, "Access-Control-Allow-Headers", c.heads), 1)
			want := api.ErrState
			if with && c.with || !with && c.without {
				want = api.OK
			}
			wantErr(t, fmt.Sprintf("Grant(%+v with %v)", c, with), err, want, -1)
			if (len(got) > 0) != (want == api.OK) {
				t.Errorf("Grant(%+v with %v) = %+v", c, with, got)
			}
		}
	}
}

// TestGrantTime: until now and Age, of all Passes; now from 0 to MaxTime.
func TestGrantTime(t *testing.T) {
	r := ask(false, "PUT", "x-a")
	for _, now := range []int{0, 1, 5, 599, 1 << 31, 1<<40 - 600, 1<<40 - 1, 1 << 40} {
		for _, c := range []struct {
			fields []string
			age    int
		}{
			{nil, 5}, {[]string{"Access-Control-Max-Age", ""}, 5}, {[]string{"Access-Control-Max-Age", "x"}, 5}, {[]string{"Access-Control-Max-Age", "0"}, 0}, {[]string{"Access-Control-Max-Age", "1"}, 1}, {[]string{"access-control-max-age", "600"}, 600}, {[]string{"Access-Control-Max-Age", "601"}, 600}, {[]string{"Access-Control-Max-Age", "99999999999999999999"}, 600}, {[]string{"Access-Control-Max-Age", "7", "Access-Control-Max-Age", "7"}, 5},
		} {
			l := append(answer("Access-Control-Allow-Methods", "PUT, patch", "Access-Control-Allow-Headers", "x-a, x-b"), pairs(c.fields...)...)
			wantGrant(t, r, l, now, granted(r, now+c.age, "PUT patch", "x-a x-b"), api.OK)
		}
	}
	if api.MaxTime != 1<<40 {
		t.Errorf("MaxTime = %d", api.MaxTime)
	}
}

// TestGrantIsForTheRequest: From, URL and With are the request's, whatever these are.
func TestGrantIsForTheRequest(t *testing.T) {
	for _, from := range []api.Origin{home, other, {Host: "a.test", Port: 80}, {}, {Secure: true, Host: "x", Port: -7}} {
		for _, to := range []api.URL{goal, {}, {Origin: from, Path: "no", Query: " "}, {Origin: home, Path: "/"}} {
			r := ask(false, "PUT", "X")
			r.From, r.URL, r.Part, r.Body = from, to, -1, "\x00"
			l := pairs("Access-Control-Allow-Origin", "*", "Access-Control-Allow-Headers", "X", "Access-Control-Max-Age", "1")
			wantGrant(t, r, l, 3, granted(r, 4, "PUT", "x"), api.OK)
		}
	}
}

// 9.3: Covers

// TestCoversMethods: simple ones always, however they are written; others by a Pass.
func TestCoversMethods(t *testing.T) {
	for _, with := range []bool{false, true} {
		for _, m := range []string{"GET", "HEAD", "POST", "get", "head", "post", "Get", "pOsT"} {
			for _, l := range [][]api.Pass{nil, {}, methodPasses("PUT"), methodPasses("*"), headPasses("x")} {
				wantCovers(t, ask(with, m), l, true)
			}
		}
		for _, c := range [][2]string{{"PUT", "PUT"}, {"put", "PUT"}, {"pUt", "PUT"}, {"DELETE", "DELETE"}, {"delete", "DELETE"}, {"options", "OPTIONS"}, {"patch", "patch"}, {"PATCH", "PATCH"}, {"a b", "a b"}, {"x", "x"}, {"é", "é"}, {"GETT", "GETT"}, {" GET", " GET"}} {
			wantCovers(t, ask(with, c[0]), nil, false)
			wantCovers(t, ask(with, c[0]), []api.Pass{}, false)
			wantCovers(t, ask(with, c[0]), methodPasses(c[1]), true)
			wantCovers(t, ask(with, c[0]), methodPasses("x-y", c[1], "*"), true)
			wantCovers(t, ask(with, c[0]), methodPasses("GET", "x-y", strings.ToLower(c[1])+"-", c[1]+" ", "**"), false)
			wantCovers(t, ask(with, c[0]), headPasses(c[1], "*"), false)
			// Of * alone, where the request is without credentials.
			wantCovers(t, ask(with, c[0]), methodPasses("*"), !with)
			wantCovers(t, ask(with, c[0]), methodPasses("x-y", "*"), !with)
			wantCovers(t, ask(with, c[0]), methodPasses("*", "x-y"), !with)
		}
		wantCovers(t, ask(with, "PUT"), methodPasses("put"), false)
		wantCovers(t, ask(with, "patch"), methodPasses("PATCH"), false)
		wantCovers(t, ask(with, "PATCH"), methodPasses("patch", "Patch"), false)
		// * as a method of its own is allowed by its name.
		wantCovers(t, ask(with, "*"), nil, false)
		wantCovers(t, ask(with, "*"), methodPasses("PUT"), false)
		wantCovers(t, ask(with, "*"), methodPasses("*"), true)
	}
}

// TestCoversHeads: each name that is asked for needs a Pass.
func TestCoversHeads(t *testing.T) {
	for _, c := range []struct {
		names         string
		passes        string
		without, with bool
	}{
		{"", "", true, true}, {"", "x", true, true}, {"", "*", true, true},
		{"x", "", false, false}, {"x", "x", true, true}, {"X", "x", true, true}, {"x", "X", false, false}, {"x", "y", false, false}, {"x", "xx", false, false}, {"xx", "x", false, false}, {"x", "y x", true, true}, {"x", "x y", true, true}, {"x X x", "x", true, true},
		{"x y", "x", false, false}, {"x y", "y", false, false}, {"x y", "x y", true, true}, {"x y", "y x", true, true}, {"y X", "z x w y", true, true}, {"a b c d e", "e d c b a", true, true}, {"a b c d e", "e d c a", false, false}, {"a b c d e", "d c b a", false, false}, {"a b c d e", "e d c b", false, false},
		{"x", "*", true, false}, {"x y z", "*", true, false}, {"x y", "x *", true, false}, {"x y", "* x", true, false}, {"x y", "* x y", true, true}, {"x", "**", false, false},
		{"authorization", "", false, false}, {"authorization", "*", false, false}, {"Authorization", "*", false, false}, {"AUTHORIZATION", "authorization", true, true}, {"authorization", "* authorization", true, true}, {"authorization", "authorization *", true, true}, {"authorization", "Authorization", false, false},
		{"authorization x", "*", false, false}, {"x authorization", "* x", false, false}, {"x authorization", "* authorization", true, false}, {"x authorization", "authorization x", true, true}, {"authorizations", "*", true, false}, {"authorization-", "*", true, false}, {"proxy-authorization", "*", true, false}, {"cookie", "*", true, false},
		{"*", "*", true, true}, {"*", "x", false, false}, {"* x", "*", true, false},
	} {
		for _, with := range []bool{false, true} {
			want := with && c.with || !with && c.without
			names, passes := strings.Fields(c.names), headPasses(strings.Fields(c.passes)...)
			wantCovers(t, ask(with, "GET", names...), passes, want)
			wantCovers(t, ask(with, "PUT", names...), passes, false)
			wantCovers(t, ask(with, "PUT", names...), append(methodPasses("PUT"), passes...), want)
			wantCovers(t, ask(with, "put", names...), append(slices.Clone(passes), methodPasses("patch", "PUT")...), want)
			if len(names) > 0 {
				wantCovers(t, ask(with, "GET", names...), methodPasses(append(strings.Fields(c.passes), "*", "x", "y")...), false)
			}
		}
	}
}

// TestCoversPlain: of headers that may be sent without asking none is asked for, unless their values are long together.
func TestCoversPlain(t *testing.T) {
	for _, with := range []bool{false, true} {
		r := ask(with, "GET")
		r.Heads = pairs("Accept", "text/html", "Accept-Language", "en", "Content-Language", "de", "Content-Type", "text/plain")
		wantCovers(t, r, nil, true)
		r.Heads = pairs("Content-Type", "application/json")
		wantCovers(t, r, nil, false)
		wantCovers(t, r, headPasses("content-type"), true)
		r.Heads = pairs("X-A", "", "Accept", "(", "accept", "x")
		wantCovers(t, r, headPasses("x-a"), false)
		wantCovers(t, r, headPasses("x-a", "accept"), true)
		for n := 7; n < 10; n++ {
			r.Heads = pairs(slices.Repeat([]string{"Accept", strings.Repeat("v", 128)}, n)...)
			wantCovers(t, r, nil, n < 9)
			wantCovers(t, r, headPasses("accept"), true)
		}
	}
}

// TestCoversNothingElse: neither From, nor URL, nor With, nor Until of a Pass matters.
func TestCoversNothingElse(t *testing.T) {
	for _, with := range []bool{false, true} {
		r := ask(with, "PUT", "x-a")
		for _, p := range []api.Pass{{}, {With: true}, {From: home, URL: goal, Until: -1}, {From: other, URL: api.URL{Path: "no"}, With: !with, Until: 1 << 60}} {
			m, h := p, p
			m.Method, h.Head = "PUT", "x-a"
			wantCovers(t, r, []api.Pass{m, h}, true)
			wantCovers(t, r, []api.Pass{h, m}, true)
			wantCovers(t, r, []api.Pass{m}, false)
			wantCovers(t, r, []api.Pass{h}, false)
			m.Method, h.Head = "*", "*"
			wantCovers(t, r, []api.Pass{m, h}, !with)
			// One Pass may be for both.
			both := p
			both.Method, both.Head = "PUT", "x-a"
			wantCovers(t, r, []api.Pass{both}, true)
			both.Method = "*"
			wantCovers(t, r, []api.Pass{both}, !with)
		}
		r.From, r.URL, r.Part, r.Body = r.URL.Origin, api.URL{}, -1, "b"
		wantCovers(t, r, nil, false)
	}
}

// 9.3: Needs

func TestNeeds(t *testing.T) {
	for _, with := range []bool{false, true} {
		for _, c := range []struct {
			method, names string
			needs         bool
		}{
			{"GET", "", false}, {"head", "", false}, {"Post", "", false}, {"PUT", "", true}, {"put", "", true}, {"patch", "", true}, {"*", "", true}, {"", "", true}, {"a b", "", true}, {"DELETE", "x", true},
			{"GET", "x-a", true}, {"GET", "Authorization", true}, {"POST", "accept", true}, {"GET", "*", true},
		} {
			r := ask(with, c.method, strings.Fields(c.names)...)
			wantNeeds(t, r, c.needs)
			// At home nothing is asked for.
			r.From = r.URL.Origin
			wantNeeds(t, r, false)
			r.From, r.URL.Origin = api.Origin{}, api.Origin{}
			wantNeeds(t, r, false)
			// Each piece of an origin counts.
			for _, o := range []api.Origin{{Secure: true, Host: "b.test", Port: 444}, {Secure: false, Host: "b.test", Port: 443}, {Secure: true, Host: "B.test", Port: 443}, {Secure: true, Host: "x.b.test", Port: 443}, {}} {
				r.From, r.URL.Origin = other, o
				wantNeeds(t, r, c.needs)
				r.From, r.URL.Origin = o, other
				wantNeeds(t, r, c.needs)
			}
		}
		r := ask(with, "POST")
		r.Heads = pairs("Content-Type", "text/plain", "Accept", "a")
		wantNeeds(t, r, false)
		r.Heads = append(r.Heads, pairs("Content-Type", "text/html")...)
		wantNeeds(t, r, true)
		r.From = r.URL.Origin
		wantNeeds(t, r, false)
	}
}

// P4

// apart asks that two texts share no memory.
func apart(t *testing.T, call, in, out string) {
	t.Helper()
	if in == "" || out == "" {
		t.Fatalf("%s(%q) = %q: nothing to hold against each other", call, in, out)
	}
	began, first := uintptr(unsafe.Pointer(unsafe.StringData(in))), uintptr(unsafe.Pointer(unsafe.StringData(out)))
	if first < began+uintptr(len(in)) && began < first+uintptr(len(out)) {
		t.Errorf("%s(%q) = %q: not fresh memory", call, in, out)
	}
}

func TestFreshMemory(t *testing.T) {
	s := strings.Clone("name: value\r\nother:x\n")
	l, err := Fields(s)
	if err != nil || len(l) != 2 {
		t.Fatalf("Fields(%q) = %q, %v", s, l, err)
	}
	for _, p := range l {
		apart(t, "Fields", s, p.Name)
		apart(t, "Fields", s, p.Value)
	}
	v, _ := Get(l, "NAME")
	apart(t, "Get", l[0].Value, v)
}

// TestGrantFreshMemory: nothing of a Pass lies in the request, or in the answer's fields.
func TestGrantFreshMemory(t *testing.T) {
	for _, methods := range []string{"", "patch-it"} {
		methods = strings.Clone(methods)
		r := ask(false, strings.Clone("patch-it"), strings.Clone("x-a"))
		r.From.Host, r.URL.Host, r.URL.Path, r.URL.Query = strings.Clone("from.test"), strings.Clone("to.test"), strings.Clone("/path"), strings.Clone("query")
		heads := strings.Clone("x-a")
		l, err := Grant(r, pairs("Access-Control-Allow-Origin", "*", "Access-Control-Allow-Methods", methods, "Access-Control-Allow-Headers", heads), 1)
		if err != nil || len(l) != 2 {
			t.Fatalf("Grant = %v, %v", l, err)
		}
		apart(t, "Grant", r.Method, l[0].Method)
		if methods != "" {
			apart(t, "Grant", methods, l[0].Method)
		}
		apart(t, "Grant", heads, l[1].Head)
		apart(t, "Grant", r.Heads[0].Name, l[1].Head)
		for _, p := range l {
			apart(t, "Grant", r.From.Host, p.From.Host)
			apart(t, "Grant", r.URL.Host, p.URL.Host)
			apart(t, "Grant", r.URL.Path, p.URL.Path)
			apart(t, "Grant", r.URL.Query, p.URL.Query)
		}
	}
}

// TestWritesNothing: neither into a list nor behind it.
func TestWritesNothing(t *testing.T) {
	fields := answer("Access-Control-Allow-Methods", "PUT,PUT", "Access-Control-Allow-Headers", "b,A", "x", "y", "z", "w")
	passes := append(methodPasses("z", "PUT", "patch"), headPasses("b", "a", "x", "y")...)
	r := ask(false, "PUT", "B", "A", "c", "d")
	r.Heads = r.Heads[:2]
	fieldsBefore, passesBefore, headsBefore := slices.Clone(fields), slices.Clone(passes), slices.Clone(r.Heads[:4])
	wantGrant(t, r, fields[:4], 1, granted(r, 6, "PUT", "b a"), api.OK)
	wantGet(t, fields[:4], "x", "", false)
	wantMay(t, r, fields[1:4], false)
	wantAge(t, fields[:4], 5)
	wantCovers(t, r, passes[:5], true)
	wantCovers(t, r, passes[:4], false)
	wantNeeds(t, r, true)
	if !slices.Equal(fields, fieldsBefore) || !slices.Equal(passes, passesBefore) || !slices.Equal(r.Heads[:4], headsBefore) {
		t.Errorf("%q, %v and %q are left of %q, %v and %q", fields, passes, r.Heads[:4], fieldsBefore, passesBefore, headsBefore)
	}
}

// TestAnswersAreTheCallers: what is done to an answer isn't seen in the next one.
func TestAnswersAreTheCallers(t *testing.T) {
	s := "a:b\nc:d"
	first, _ := Fields(s)
	second, _ := Fields(s)
	first[0], first = api.Param{}, append(first[:1], api.Param{})
	if !slices.Equal(second, pairs("a", "b", "c", "d")) {
		t.Errorf("Fields = %q then", second)
	}
	r := ask(true, "PUT", "x")
	l := answer("Access-Control-Allow-Headers", "x, y")
	one, _ := Grant(r, l, 1)
	two, _ := Grant(r, l, 1)
	one[0], one = api.Pass{}, append(one[:1], api.Pass{})
	if !slices.Equal(two, granted(r, 6, "PUT", "x y")) {
		t.Errorf("Grant = %v then", two)
	}
	wantRead(t, s, "a", "b", "c", "d")
	wantGrant(t, r, l, 1, granted(r, 6, "PUT", "x y"), api.OK)
}

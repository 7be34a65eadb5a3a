package url

import (
	"fmt"
	"math"
	"regexp"
	"strconv"
	"strings"
	"testing"

	"gatepost/api"
	"gatepost/plain"
)

// The document's forms, told once more by other means.
var (
	hostForm   = regexp.MustCompile(`\A[a-z0-9]([a-z0-9-]*[a-z0-9])?(\.[a-z0-9]([a-z0-9-]*[a-z0-9])?)*\z`)
	originForm = regexp.MustCompile(`\A([Hh][Tt][Tt][Pp][Ss]?)://([A-Za-z0-9.-]+)(?::([0-9]{1,5}))?\z`)
	urlForm    = regexp.MustCompile(`\A([^/?#]*://[^/?#]*)([^?#]*)(?:\?([^#]*))?(?s:#.*)?\z`)
	sentForm   = regexp.MustCompile(`\A[A-Za-z0-9\-._~!$&'()*+,;=:@%/?]*\z`)
)

// ruleRight is Right by its form.
func ruleRight(o api.Origin) bool {
	return len(o.Host) <= 60 && hostForm.MatchString(o.Host) && o.Port > 0 && o.Port < 65536
}

// ruleOrigin is Origin by its form; false: ErrForm.
func ruleOrigin(s string) (api.Origin, bool) {
	m := originForm.FindStringSubmatch(s)
	if m == nil {
		return api.Origin{}, false
	}
	o := api.Origin{Secure: len(m[1]) == 5, Host: strings.ToLower(m[2]), Port: 80}
	if o.Secure {
		o.Port = 443
	}
	if m[3] != "" {
		o.Port, _ = strconv.Atoi(m[3])
	}
	if !ruleRight(o) {
		return api.Origin{}, false
	}
	return o, true
}

// ruleClean is Clean by a list of what stands between /.
func ruleClean(s string) string {
	if !strings.HasPrefix(s, "/") {
		s = "/" + s
	}
	parts := strings.Split(s, "/")
	kept := []string{parts[0]}
	for i, part := range parts[1:] {
		points := part == "." || part == ".."
		if part == ".." && len(kept) > 1 {
			kept = kept[:len(kept)-1]
		}
		if !points {
			kept = append(kept, part)
		} else if i == len(parts)-2 {
			kept = append(kept, "")
		}
	}
	return strings.Join(kept, "/")
}

// ruleParse is Parse by its form.
func ruleParse(s string) (api.URL, api.Errno) {
	if len(s) > 3000 {
		return api.URL{}, api.ErrLimit
	}
	m := urlForm.FindStringSubmatch(s)
	if m == nil {
		return api.URL{}, api.ErrForm
	}
	o, ok := ruleOrigin(m[1])
	if !ok || !sentForm.MatchString(m[2]) || !sentForm.MatchString(m[3]) {
		return api.URL{}, api.ErrForm
	}
	u := api.URL{Origin: o, Path: ruleClean(m[2]), Query: m[3]}
	if len(u.Path) > 200 {
		return api.URL{}, api.ErrRange
	}
	return u, api.OK
}

// wantErr asks that an error came out as it is told, without a place.
func wantErr(t *testing.T, call, in string, err error, want api.Errno) {
	t.Helper()
	if e, place := plain.Place(err); e != want || place != -1 {
		t.Errorf("%s(%.100q): %v (place %d); want %v without a place", call, in, err, place, want)
	}
}

// wantOrigin asks Origin; false: ErrForm, and beside it nothing.
func wantOrigin(t *testing.T, s string, want api.Origin, ok bool) {
	t.Helper()
	e := api.OK
	if !ok {
		want, e = api.Origin{}, api.ErrForm
	}
	got, err := Origin(s)
	wantErr(t, "Origin", s, err, e)
	if got != want {
		t.Errorf("Origin(%.100q) = %v; want %v", s, got, want)
	}
}

// wantURL asks Parse; with an error nothing is to stand beside it.
func wantURL(t *testing.T, s string, want api.URL, e api.Errno) {
	t.Helper()
	got, err := Parse(s)
	wantErr(t, "Parse", s, err, e)
	if got != want {
		t.Errorf("Parse(%.100q) = %v; want %v", s, got, want)
	}
}

// each calls try with every text of at most most of some pieces.
func each(pieces []string, most int, try func(string)) {
	var more func(s string, left int)
	more = func(s string, left int) {
		try(s)
		if left == 0 {
			return
		}
		for _, p := range pieces {
			more(s+p, left-1)
		}
	}
	more("", most)
}

func TestPort(t *testing.T) {
	if got := Port(true); got != 443 {
		t.Errorf("Port(true) = %d; want 443", got)
	}
	if got := Port(false); got != 80 {
		t.Errorf("Port(false) = %d; want 80", got)
	}
}

func TestRightHosts(t *testing.T) {
	labels := strings.Repeat("a.", 29) + "aa" // 60 bytes
	for _, c := range []struct {
		host string
		want bool
	}{
		{"a", true}, {"z", true}, {"0", true}, {"9", true}, {"a.test", true}, {"1.2.3.4", true}, {"xn--a.b", true}, {"a-b.c-d", true}, {"a--b", true}, {"0-9", true},
		{"", false}, {".", false}, {"..", false}, {"a.", false}, {".a", false}, {"a..b", false}, {"a.b.", false},
		{"-", false}, {"-a", false}, {"a-", false}, {"a.-b", false}, {"a-.b", false}, {"a.b-", false}, {"-.a", false}, {"a.-", false}, {"a.-.b", false}, {"a.--.b", false},
		{"A", false}, {"Z", false}, {"a.Test", false}, {"a_b", false}, {"a b", false}, {" a", false}, {"a ", false}, {"a:1", false}, {"a/b", false}, {"a@b", false}, {"*", false}, {"[::1]", false},
		{"é", false}, {"a\x00", false}, {"a\n", false}, {"\xff", false}, {"a\x80", false},
		{strings.Repeat("a", 59), true}, {strings.Repeat("a", 60), true}, {strings.Repeat("a", 61), false},
		{labels, true}, {labels + "a", false}, {labels + ".", false}, {"a." + labels, false},
		{strings.Repeat("a", 59) + ".", false}, {strings.Repeat("a", 59) + "-", false}, {"-" + strings.Repeat("a", 59), false}, {strings.Repeat("a", 59) + "_", false},
		{strings.Repeat("a", 100_000), false}, {strings.Repeat(".", 100_000), false},
	} {
		for _, secure := range []bool{false, true} {
			if got := Right(api.Origin{Secure: secure, Host: c.host, Port: 1}); got != c.want {
				t.Errorf("Right of host %.100q = %v; want %v", c.host, got, c.want)
			}
		}
	}
}

func TestRightPorts(t *testing.T) {
	for _, c := range []struct {
		port int
		want bool
	}{
		{math.MinInt, false}, {-65535, false}, {-80, false}, {-1, false}, {0, false},
		{1, true}, {80, true}, {443, true}, {65534, true}, {65535, true},
		{65536, false}, {65537, false}, {65536 + 80, false}, {1<<32 + 80, false}, {math.MaxInt, false},
	} {
		for _, secure := range []bool{false, true} {
			if got := Right(api.Origin{Secure: secure, Host: "a.test", Port: c.port}); got != c.want {
				t.Errorf("Right of port %d = %v; want %v", c.port, got, c.want)
			}
		}
		if Right(api.Origin{Host: "a_b", Port: c.port}) {
			t.Errorf("Right of host a_b, port %d; want false", c.port)
		}
	}
	if Right(api.Origin{}) {
		t.Error("Right of nothing; want false")
	}
}

// TestRightBytes: each byte, alone, first, in the middle, last.
func TestRightBytes(t *testing.T) {
	for c := range 256 {
		b := string([]byte{byte(c)})
		for _, host := range []string{b, b + "a", "a" + b + "a", "a" + b, "a." + b + ".a"} {
			o := api.Origin{Host: host, Port: 80}
			if got, want := Right(o), ruleRight(o); got != want {
				t.Errorf("Right of host %q = %v; want %v", host, got, want)
			}
		}
	}
}

func TestRightOfAllShortHosts(t *testing.T) {
	each([]string{"a", "0", "-", ".", "A", "_"}, 6, func(host string) {
		o := api.Origin{Host: host, Port: 65535}
		if got, want := Right(o), ruleRight(o); got != want {
			t.Errorf("Right of host %q = %v; want %v", host, got, want)
		}
	})
}

func TestText(t *testing.T) {
	for _, c := range []struct {
		o    api.Origin
		want string
	}{
		{api.Origin{Host: "a", Port: 80}, "http://a"},
		{api.Origin{Host: "a", Port: 443}, "http://a:443"},
		{api.Origin{Secure: true, Host: "a", Port: 443}, "https://a"},
		{api.Origin{Secure: true, Host: "a", Port: 80}, "https://a:80"},
		{api.Origin{Secure: true, Host: "a.test", Port: 8080}, "https://a.test:8080"},
		{api.Origin{Host: "a.test", Port: 1}, "http://a.test:1"},
		{api.Origin{Host: "a.test", Port: 65535}, "http://a.test:65535"},
		// those that aren't Right
		{api.Origin{}, "http://:0"},
		{api.Origin{Secure: true}, "https://:0"},
		{api.Origin{Host: "A b", Port: -80}, "http://A b:-80"},
		{api.Origin{Host: "a", Port: math.MaxInt64}, "http://a:9223372036854775807"},
		{api.Origin{Host: "a", Port: math.MinInt64}, "http://a:-9223372036854775808"},
		{api.Origin{Secure: true, Host: strings.Repeat("\xff", 100), Port: 443}, "https://" + strings.Repeat("\xff", 100)},
	} {
		if got := Text(c.o); got != c.want {
			t.Errorf("Text(%v) = %q; want %q", c.o, got, c.want)
		}
	}
}

func TestPrintAndTarget(t *testing.T) {
	a := api.Origin{Secure: true, Host: "a.test", Port: 443}
	b := api.Origin{Host: "b", Port: 8080}
	for _, c := range []struct {
		u            api.URL
		text, target string
	}{
		{api.URL{Origin: a, Path: "/"}, "https://a.test", "/"},
		{api.URL{Origin: a, Path: "/x/y"}, "https://a.test", "/x/y"},
		{api.URL{Origin: a, Path: "/x", Query: "q"}, "https://a.test", "/x?q"},
		{api.URL{Origin: b, Path: "/x", Query: "?"}, "http://b:8080", "/x??"},
		{api.URL{Origin: b, Path: "/", Query: "a=1&b=/../c?"}, "http://b:8080", "/?a=1&b=/../c?"},
		// what Parse doesn't answer is told as it stands
		{api.URL{}, "http://:0", ""},
		{api.URL{Origin: a}, "https://a.test", ""},
		{api.URL{Origin: a, Query: "q"}, "https://a.test", "?q"},
		{api.URL{Origin: a, Path: "x/../y", Query: "#"}, "https://a.test", "x/../y?#"},
		{api.URL{Origin: a, Path: "/?", Query: ""}, "https://a.test", "/?"},
		{api.URL{Origin: b, Path: "\x00", Query: "\xff"}, "http://b:8080", "\x00?\xff"},
	} {
		if got := Target(c.u); got != c.target {
			t.Errorf("Target(%v) = %q; want %q", c.u, got, c.target)
		}
		if got := Print(c.u); got != c.text+c.target {
			t.Errorf("Print(%v) = %q; want %q", c.u, got, c.text+c.target)
		}
	}
}

func TestOrigin(t *testing.T) {
	for _, c := range []struct {
		s    string
		want api.Origin
	}{
		{"http://a", api.Origin{Host: "a", Port: 80}},
		{"https://a", api.Origin{Secure: true, Host: "a", Port: 443}},
		{"HTTP://A", api.Origin{Host: "a", Port: 80}},
		{"HTTPS://A.TEST", api.Origin{Secure: true, Host: "a.test", Port: 443}},
		{"hTtPs://a.Test:8080", api.Origin{Secure: true, Host: "a.test", Port: 8080}},
		{"Http://X-Y.Z:443", api.Origin{Host: "x-y.z", Port: 443}},
		{"https://a:80", api.Origin{Secure: true, Host: "a", Port: 80}},
		{"http://a:80", api.Origin{Host: "a", Port: 80}},
		{"https://a:443", api.Origin{Secure: true, Host: "a", Port: 443}},
		{"http://a:1", api.Origin{Host: "a", Port: 1}},
		{"http://a:9", api.Origin{Host: "a", Port: 9}},
		{"http://a:10000", api.Origin{Host: "a", Port: 10000}},
		{"http://a:65535", api.Origin{Host: "a", Port: 65535}},
		{"http://a:08", api.Origin{Host: "a", Port: 8}}, // 1 to 5 digits, whichever
		{"http://a:00080", api.Origin{Host: "a", Port: 80}},
		{"http://a:00001", api.Origin{Host: "a", Port: 1}},
		{"http://127.0.0.1:80", api.Origin{Host: "127.0.0.1", Port: 80}},
		{"http://http:80", api.Origin{Host: "http", Port: 80}},
		{"http://" + strings.Repeat("A", 60), api.Origin{Host: strings.Repeat("a", 60), Port: 80}},
		{"https://" + strings.Repeat("a", 60) + ":65535", api.Origin{Secure: true, Host: strings.Repeat("a", 60), Port: 65535}},
	} {
		wantOrigin(t, c.s, c.want, true)
	}
}

func TestOriginRefuses(t *testing.T) {
	for _, s := range []string{
		"", "a", "a.test", "http", "http:", "http:/", "http:/a", "http:a", "http//a", "//a", "://a", "/", "htt", "https", "https:", "https:/", "https:/a", "httpss://a", "httpx://a", "ftp://a", "ws://a", "file:///a", "null", "*", // scheme
		" http://a", "\thttp://a", "xhttp://a", "http ://a", "http: //a", "http:\\\\a", "hſtp://a", "httpſ://a", "http:/\x00/a", "HTTP:||A",
		"http://", "https://", "HTTP://", "http://:80", "http://:", "http://.", "http://..", "http://a.", "http://.a", "http://a..b", // labels
		"http://-", "http://-a", "http://a-", "http://a.-b", "http://a-.b", "http://a_b", "http://a b", "http:// a", "http://a ", "http://a\n", "http://é", "http://\u212a", "http://a\x00", "http://\xff", "http://*", "http://*.a",
		"http://[::1]", "http://u@a", "http://u:p@a", "http://u:80@a", "http://a%41",
		"http:///", "http:///a", "http://a/", "http://a/b", "http://a?", "http://a?q", "http://a#", "http://a#f", "http://a:80/", "http://a:80?", "http://a:80#", "http://http://a", // more behind
		"http://a:", "https://a:", "http://a:0", "http://a:00", "http://a:00000", "http://a:65536", "http://a:65600", "http://a:99999", "http://a:100000", "http://a:123456", "http://a:000080", "http://a:000000", "http://a:4294967376", "http://a:18446744073709551696", // ports
		"http://a:x", "http://a:8x", "http://a:x8", "http://a:-1", "http://a:-80", "http://a:+80", "http://a: 80", "http://a:80 ", "http://a:8 0", "http://a:80:", "http://a:80:80", "http://a::80", "http://a::", "http://a:0x50", "http://a:8.0", "http://a:8_0", "http://a:1e1", "http://a:٣", "http://a:/", "http://a:::", "http://a:80\x00",
		"http://" + strings.Repeat("a", 61), "http://" + strings.Repeat("A", 61), "https://" + strings.Repeat("a", 61) + ":80", "http://" + strings.Repeat("a", 100_000), "http://a:" + strings.Repeat("1", 100_000), strings.Repeat("http://", 10_000),
	} {
		wantOrigin(t, s, api.Origin{}, false)
	}
}

// TestOriginIsText: what Text writes of an origin that is Right, Origin reads; and what isn't Right, it doesn't.
func TestOriginIsText(t *testing.T) {
	for _, host := range []string{"a", "a.test", "0", "x-y.z", "a--b.c9", strings.Repeat("a", 60), strings.Repeat("a", 61), "", "-a", "a..b"} {
		for _, port := range []int{-1, 0, 1, 79, 80, 81, 442, 443, 444, 8080, 65535, 65536, 99999, 100000} {
			for _, secure := range []bool{false, true} {
				o := api.Origin{Secure: secure, Host: host, Port: port}
				wantOrigin(t, Text(o), o, Right(o))
			}
		}
	}
}

func TestOriginOfEachPort(t *testing.T) {
	for port := range 100_000 {
		s := fmt.Sprintf("https://a:%d", port)
		wantOrigin(t, s, api.Origin{Secure: true, Host: "a", Port: port}, 1 <= port && port <= 65535)
	}
}

// TestOriginOfEachByte: each byte in the place of each byte of an origin, and ahead of it.
func TestOriginOfEachByte(t *testing.T) {
	for _, s := range []string{"http://ab.c-d:80", "HTTPS://Ab.C:65535", "https://a"} {
		for i := range len(s) + 1 {
			for c := range 256 {
				b := string([]byte{byte(c)})
				texts := []string{s[:i] + b + s[i:]}
				if i < len(s) {
					texts = append(texts, s[:i]+b+s[i+1:], s[:i]+s[i+1:])
				}
				for _, text := range texts {
					want, ok := ruleOrigin(text)
					wantOrigin(t, text, want, ok)
				}
			}
		}
	}
}

func TestOriginOfAllShortTexts(t *testing.T) {
	each([]string{"http", "S", "://", "a", "-", ".", ":", "0", "7"}, 6, func(s string) {
		want, ok := ruleOrigin(s)
		wantOrigin(t, s, want, ok)
		want, ok = ruleOrigin("http://a" + s)
		wantOrigin(t, "http://a"+s, want, ok)
	})
}

func TestParse(t *testing.T) {
	a := api.Origin{Secure: true, Host: "a.test", Port: 443}
	b := api.Origin{Host: "b", Port: 80}
	for _, c := range []struct {
		s           string
		o           api.Origin
		path, query string
	}{
		{"HTTPS://A.test:443/x/../y?q#f", a, "/y", "q"},
		{"http://b", b, "/", ""},
		{"http://b/", b, "/", ""},
		{"http://b//", b, "//", ""},
		{"http://b:80/x", b, "/x", ""},
		{"http://b:08/x", api.Origin{Host: "b", Port: 8}, "/x", ""},
		{"http://b/X%41", b, "/X%41", ""}, // as it is sent
		{"http://b/%", b, "/%", ""},
		{"http://b/%2e%2E/", b, "/%2e%2E/", ""},
		{"http://b?", b, "/", ""},
		{"http://b?q", b, "/", "q"},
		{"http://b?/", b, "/", "/"},
		{"http://b?/x?y/", b, "/", "/x?y/"},
		{"http://b:80?q", b, "/", "q"},
		{"http://b/?", b, "/", ""},
		{"http://b/x??", b, "/x", "?"},
		{"http://b/x?q?r", b, "/x", "q?r"},
		{"http://b/x?/a/../b/.", b, "/x", "/a/../b/."}, // a query isn't cleaned
		{"http://b/x?Q=http://A", b, "/x", "Q=http://A"},
		{"http://b/http://A", b, "/http://A", ""},
		{"http://b/a:80@b", b, "/a:80@b", ""},
		{"http://b#", b, "/", ""},
		{"http://b#f", b, "/", ""},
		{"http://b#/x?q", b, "/", ""},
		{"http://b/x#", b, "/x", ""},
		{"http://b/x#/../y?q#f", b, "/x", ""},
		{"http://b/x?q#r?s", b, "/x", "q"},
		{"http://b/x?#q", b, "/x", ""},
		{"http://b/x#\x00 <>\"\xff\n", b, "/x", ""},
		{"http://b:80#f", b, "/", ""},
		{"http://b:8#0:", api.Origin{Host: "b", Port: 8}, "/", ""},
		{"http://b/.", b, "/", ""},
		{"http://b/..", b, "/", ""},
		{"http://b/../..", b, "/", ""},
		{"http://b/./x/./y/../z/.", b, "/x/z/", ""},
		{"http://b/x/..?..", b, "/", ".."},
		{"http://b/x/..#..", b, "/", ""},
		{"http://b/-._~!$&'()*+,;=:@%09azAZ", b, "/-._~!$&'()*+,;=:@%09azAZ", ""},
		{"http://b?-._~!$&'()*+,;=:@%/?09azAZ", b, "/", "-._~!$&'()*+,;=:@%/?09azAZ"},
	} {
		wantURL(t, c.s, api.URL{Origin: c.o, Path: c.path, Query: c.query}, api.OK)
	}
}

func TestParseRefuses(t *testing.T) {
	for _, s := range []string{
		"", "#", "?", "/", "/x", "x", "//b/x", "b/x", "ftp://b/x", "http:", "http:/b/x", "http:///x", "http://?q", "http://#f", "http://", "http:?//b", "http:#//b", "htt#p://b", "http:/?/b", "http:/#/b", "?http://b", "#http://b",
		"http://-b/", "http://b-/", "http://b../", "http://.b/", "http://b_c/x", "http://u@b/", "http://u:p@b/x",
		"http://b:/x", "http://b:?q", "http://b:#f", "http://b:0/x", "http://b:65536/", "http://b:123456/x", "http://b:x/", "http://b:80x/", "http://b:80:80/", "http://b:#80",
		"http://b%41", "http://bx.", "http://b..", "http://b/x y", "http://b/x\ty", "http://b\\x", "http://b/\\", "http://b/<", "http://b/>", "http://b/\"", "http://b/[", "http://b/]", "http://b/{", "http://b/}", "http://b/|", "http://b/^", "http://b/`", "http://b/\x00", "http://b/\x7f", "http://b/é", "http://b/\xff",
		"http://b? ", "http://b?<", "http://b?q\x00", "http://b/x?[", "http://b/x?\\", "http://b/x?é", "http://b/x?\xff", "http://b/x?q #f", "http://b/x ?q", " http://b/", "http://b/ ",
		"http://b/ /..", "http://b/</../x", "http://b/x/\xff/../y", // what would be taken away counts too
		"http://" + strings.Repeat("b", 61) + "/",
	} {
		wantURL(t, s, api.URL{}, api.ErrForm)
	}
}

// TestParseOfEachByte: each byte in the path, in the query, and behind #, where any may stand.
func TestParseOfEachByte(t *testing.T) {
	for c := range 256 {
		b := string([]byte{byte(c)})
		for _, s := range []string{"http://b" + b, "http://b/x" + b, "http://b/" + b + "x", "http://b/x" + b + "y?q", "http://b?" + b, "http://b/x?q" + b + "r", "http://b/x?q#" + b, b + "http://b/x", "http://b:80" + b, "http:" + b + "/b/", "http:/" + b + "b/"} {
			want, e := ruleParse(s)
			wantURL(t, s, want, e)
		}
		wantURL(t, "http://b/x?q#"+b, api.URL{Origin: api.Origin{Host: "b", Port: 80}, Path: "/x", Query: "q"}, api.OK)
	}
}

func TestParseOfAllShortTexts(t *testing.T) {
	each([]string{"/", ".", "a", "?", "#", ":", "8", " "}, 5, func(s string) {
		for _, ahead := range []string{"http://b", "HTTPS://B.c/", "http://", "http:"} {
			want, e := ruleParse(ahead + s)
			wantURL(t, ahead+s, want, e)
		}
	})
}

// TestParseLimit: all bytes of the text count, those behind # too; and ErrLimit comes ahead of all else.
func TestParseLimit(t *testing.T) {
	fill := func(s string, n int, with string) string { return s + strings.Repeat(with, n-len(s)) }
	b := api.Origin{Host: "b", Port: 80}
	query := strings.Repeat("q", api.MaxText-len("http://b/x?"))
	wantURL(t, "http://b/x?"+query, api.URL{Origin: b, Path: "/x", Query: query}, api.OK)
	wantURL(t, "http://b/x?"+query+"q", api.URL{}, api.ErrLimit)
	wantURL(t, fill("http://b/x#", api.MaxText, "f"), api.URL{Origin: b, Path: "/x"}, api.OK)
	wantURL(t, fill("http://b/x#", api.MaxText+1, "f"), api.URL{}, api.ErrLimit)
	wantURL(t, fill("http://b/", api.MaxText, "/."), api.URL{}, api.ErrLimit) // two bytes each
	wantURL(t, fill("http://b/", api.MaxText, "p"), api.URL{}, api.ErrRange)
	wantURL(t, fill("http://b/", api.MaxText+1, "p"), api.URL{}, api.ErrLimit)
	wantURL(t, fill("", api.MaxText, " "), api.URL{}, api.ErrForm)
	wantURL(t, fill("", api.MaxText+1, " "), api.URL{}, api.ErrLimit)
	wantURL(t, fill("http://b/x?q", 1_000_000, "q"), api.URL{}, api.ErrLimit)
}

// TestParseRange: the path counts as it is when it is clean; the query doesn't count; ErrForm comes first.
func TestParseRange(t *testing.T) {
	b := api.Origin{Secure: true, Host: "b", Port: 443}
	for n := 190; n < 210; n++ {
		path := "/" + strings.Repeat("p", n-1)
		want, e := api.URL{Origin: b, Path: path}, api.OK
		if n > api.MaxPath {
			want, e = api.URL{}, api.ErrRange
		}
		for _, text := range []string{path, "/." + path, "/.." + path, "/x/.." + path, path + "#f", path + "?", "/" + strings.Repeat("p", 300) + "/.." + path} {
			wantURL(t, "https://b"+text, want, e)
		}
		if e == api.OK {
			want.Query = "q/../" + strings.Repeat("r", 1000)
		}
		wantURL(t, "https://b"+path+"?q/../"+strings.Repeat("r", 1000), want, e)
		wantURL(t, "https://b"+path+" ", api.URL{}, api.ErrForm)
		wantURL(t, "https://b"+path+"? ", api.URL{}, api.ErrForm)
		wantURL(t, "https://-b"+path, api.URL{}, api.ErrForm)
	}
	slashes := strings.Repeat("/", api.MaxPath)
	wantURL(t, "https://b"+slashes, api.URL{Origin: b, Path: slashes}, api.OK)
	wantURL(t, "https://b"+slashes+"/", api.URL{}, api.ErrRange)
	wantURL(t, "https://b"+slashes+"/.", api.URL{}, api.ErrRange)
	wantURL(t, "https://b"+slashes+"/..", api.URL{Origin: b, Path: slashes}, api.OK)
	wantURL(t, "https://b"+strings.Repeat("/.", 1400), api.URL{Origin: b, Path: "/"}, api.OK)
	wantURL(t, "https://b"+strings.Repeat("/p", 700)+strings.Repeat("/..", 500), api.URL{}, api.ErrRange)
	wantURL(t, "https://b"+strings.Repeat("/p", 590)+strings.Repeat("/..", 580), api.URL{Origin: b, Path: strings.Repeat("/p", 10) + "/"}, api.OK)
}

// TestPrintIsRead: what Parse answers, Print writes, and Parse reads it as the same.
func TestPrintIsRead(t *testing.T) {
	for _, at := range []string{"http://a", "HTTPS://A.Test:443", "https://x-y.z:80", "http://a:65535"} {
		for _, path := range []string{"", "/", "//", "/.", "/x/../y", "/x/..//", "/a%41//b/", "/..//../x", "/:@", "/" + strings.Repeat("p", 199)} {
			for _, query := range []string{"", "?", "??", "?q", "?q?r=/../s", "#f", "?q#f"} {
				u, err := Parse(at + path + query)
				if err != nil {
					t.Errorf("Parse(%q): %v", at+path+query, err)
				}
				wantURL(t, Print(u), u, api.OK)
				wantOrigin(t, Text(u.Origin), u.Origin, true)
				if Clean(u.Path) != u.Path || Print(u) != Text(u.Origin)+Target(u) {
					t.Errorf("%q: %v: not clean, or printed otherwise", at+path+query, u)
				}
			}
		}
	}
}

func TestClean(t *testing.T) {
	for _, c := range [][2]string{
		{"", "/"}, {"/", "/"}, {"//", "//"}, {"///", "///"}, {"////", "////"}, // empty ones are parts
		{"a", "/a"}, {"/a", "/a"}, {"a/", "/a/"}, {"/a/", "/a/"}, {"a/b", "/a/b"}, {"//a", "//a"}, {"/a//b", "/a//b"}, {"/a//", "/a//"},
		{".", "/"}, {"/.", "/"}, {"./", "/"}, {"/./", "/"}, {"./.", "/"}, {"/./.", "/"}, {"/././", "/"}, {"./a", "/a"}, {"/./a", "/a"}, {"/a/.", "/a/"}, {"/a/./", "/a/"}, {"/a/./b", "/a/b"}, {"/a/./.", "/a/"}, {"//.", "//"}, {"/.//", "//"}, {"/.//.", "//"},
		{"..", "/"}, {"/..", "/"}, {"../", "/"}, {"/../", "/"}, {"../..", "/"}, {"/../..", "/"}, {"../a", "/a"}, {"/../a", "/a"}, {"/../../a", "/a"}, {"a/..", "/"}, {"/a/..", "/"}, {"/a/../", "/"}, {"/a/../b", "/b"}, {"/a/b/..", "/a/"}, {"/a/b/../", "/a/"}, {"/a/b/../c", "/a/c"}, {"/a/b/../..", "/"}, {"/a/b/../../c", "/c"}, {"/a/b/../../..", "/"}, {"/a/b/../../../c", "/c"}, {"/a/../../b", "/b"},
		{"//..", "/"}, {"///..", "//"}, {"//../a", "/a"}, {"/..//", "//"}, {"/a//..", "/a/"}, {"/a//../b", "/a/b"}, {"/a//../..", "/"}, {"/a//../../b", "/b"}, {"//a/..", "//"}, {"//a/../..", "/"}, // an empty one is taken away as any other
		{"/a/./..", "/"}, {"/a/../.", "/"}, {"/a/b/./../c", "/a/c"}, {"/./..", "/"}, {"/../.", "/"}, {"/a/b/.././c", "/a/c"},
		{"...", "/..."}, {"/...", "/..."}, {"/.a", "/.a"}, {"/a.", "/a."}, {"/..a", "/..a"}, {"/a..", "/a.."}, {"/a/...", "/a/..."}, {"/a/.../..", "/a/"}, {"/. ", "/. "}, {"/a/.. ", "/a/.. "}, {"/%2e", "/%2e"}, {"/a/%2e%2e", "/a/%2e%2e"}, {"/a\\..", "/a\\.."},
		{"a?b/../c#d", "/c#d"}, {"/\x00/\xff/..", "/\x00/"}, {"é/./ü", "/é/ü"}, {"http://a/..", "/http://"}, {" /..", "/"}, {" ", "/ "},
	} {
		if got := Clean(c[0]); got != c[1] {
			t.Errorf("Clean(%q) = %q; want %q", c[0], got, c[1])
		}
	}
}

// TestCleanOfAllShortTexts: as its list tells it, and what is clean stays so.
func TestCleanOfAllShortTexts(t *testing.T) {
	each([]string{"/", ".", "..", "a", "/a/", "/.."}, 6, func(s string) {
		got := Clean(s)
		if want := ruleClean(s); got != want {
			t.Errorf("Clean(%q) = %q; want %q", s, got, want)
		}
		if again := Clean(got); again != got || got[0] != '/' {
			t.Errorf("Clean(%q) = %q, and of that %q", s, got, again)
		}
	})
}

// TestCleanOfLongTexts: a path of many parts takes no more time than its bytes need.
func TestCleanOfLongTexts(t *testing.T) {
	const n = 1 << 20
	long := strings.Repeat("p", n)
	for _, c := range [][2]string{
		{strings.Repeat("/", n), strings.Repeat("/", n)},
		{strings.Repeat("/", n) + strings.Repeat("/..", n), "/"},
		{strings.Repeat("/", n) + strings.Repeat("/..", n-2), "///"},
		{strings.Repeat("/.", n), "/"},
		{strings.Repeat("/..", n), "/"},
		{strings.Repeat("../", n), "/"},
		{strings.Repeat("/a/..", n), "/"},
		{strings.Repeat("/a", n) + strings.Repeat("/..", n-1), "/a/"},
		{long + strings.Repeat("/a/..", n), "/" + long + "/"},
		{long + "/./../" + long, "/" + long},
	} {
		if got := Clean(c[0]); got != c[1] {
			t.Errorf("Clean(%.20q.. of %d bytes) = %.20q.. of %d bytes; want %.20q.. of %d", c[0], len(c[0]), got, len(got), c[1], len(c[1]))
		}
	}
}

func TestDir(t *testing.T) {
	for _, c := range [][2]string{
		{"", ""}, {"a", ""}, {"a.b?c", ""}, {"..", ""}, {"\\", ""},
		{"/", "/"}, {"/a", "/"}, {"/a/", "/a/"}, {"/a/b", "/a/"}, {"/a/b/", "/a/b/"}, {"a/b", "a/"}, {"a/", "a/"},
		{"//", "//"}, {"//a", "//"}, {"/a//b", "/a//"}, {"/a/..", "/a/"}, {"/a/.", "/a/"}, {"/a?b/c", "/a?b/"}, {"\x00/\xff", "\x00/"},
		{strings.Repeat("/", 1000) + "a", strings.Repeat("/", 1000)},
		{"/" + strings.Repeat("a", 1000), "/"},
	} {
		if got := Dir(c[0]); got != c[1] {
			t.Errorf("Dir(%.100q) = %.100q; want %.100q", c[0], got, c[1])
		}
	}
}

func TestWithin(t *testing.T) {
	for _, c := range []struct {
		p, space string
		want     bool
	}{
		{"", "", true}, {"/", "", true}, {"a", "", true}, {"", "/", false}, {"/", "/", true}, {"/a", "/", true},
		{"/a", "/a", true}, {"/ab", "/a", true}, {"/a/b", "/a", true}, {"/a/b", "/a/", true}, {"/a", "/a/", false}, {"/b", "/a", false}, {"/ba", "/a", false},
		{"/A", "/a", false}, {"/a", "/A", false}, {"x/a", "/a", false}, {"a", "/a", false}, {"/a", "a", false},
		{"/a/../b", "/a", true}, {"/b", "/a/../b", false}, {"//", "/", true}, {"/", "//", false}, {"\xff\x00", "\xff", true}, {"é", "\xc3", true},
	} {
		if got := Within(c.p, c.space); got != c.want {
			t.Errorf("Within(%q, %q) = %v; want %v", c.p, c.space, got, c.want)
		}
	}
}

// TestPieces: they are there as often as they are ranged over, and end where the one who asks ends.
func TestPieces(t *testing.T) {
	seq := pieces(".a..b", '.')
	for range 2 {
		var got []string
		for p := range seq {
			got = append(got, p)
		}
		if want := []string{"", "a", "", "b"}; fmt.Sprintf("%q", got) != fmt.Sprintf("%q", want) {
			t.Errorf("pieces = %q; want %q", got, want)
		}
	}
	for p := range seq {
		if p == "a" {
			break
		}
	}
}

// FuzzParse holds any text against the document's forms.
func FuzzParse(f *testing.F) {
	for _, s := range []string{"", "HTTPS://A.test:443/x/../y?q#f", "http://a:08//..?/?#", "http://-a/", "http://a/ "} {
		f.Add(s)
	}
	f.Fuzz(func(t *testing.T, s string) {
		want, e := ruleParse(s)
		wantURL(t, s, want, e)
		o, ok := ruleOrigin(s)
		wantOrigin(t, s, o, ok)
		if got := Clean(s); got != ruleClean(s) {
			t.Errorf("Clean(%q) = %q; want %q", s, got, ruleClean(s))
		}
	})
}

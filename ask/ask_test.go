package ask

import (
	"fmt"
	"slices"
	"strings"
	"testing"

	"gatepost/api"
)

// 5.2

func TestPrint(t *testing.T) {
	both := with("x", "a", "b", "c", "d e")
	both.Token = "abc="
	for _, c := range []struct {
		l    []api.Challenge
		want string
	}{
		{nil, ""},
		{[]api.Challenge{}, ""},
		{[]api.Challenge{bare("Basic", "")}, "Basic"},
		{[]api.Challenge{bare("Basic", "abc==")}, "Basic abc=="},
		{[]api.Challenge{with("Basic", "realm", "r")}, "Basic realm=r"},
		{[]api.Challenge{with("Basic", "realm", "a b")}, `Basic realm="a b"`},
		{[]api.Challenge{with("Digest", "realm", "r", "nonce", "", "Qop", "auth,auth-int")}, `Digest realm=r, nonce="", Qop="auth,auth-int"`},
		{[]api.Challenge{with("x", "a", `say "b\c"`)}, `x a="say \"b\\c\""`},
		{[]api.Challenge{with("x", "a", "\t\xff/=")}, "x a=\"\t\xff/=\""},
		{[]api.Challenge{with("x", "a", "b", "a", "b")}, "x a=b, a=b"},
		{[]api.Challenge{both}, `x abc= a=b, c="d e"`},
		{[]api.Challenge{bare("x", ""), bare("y", "")}, "x, y"},
		{[]api.Challenge{bare("x", ""), bare("y", "z"), with("w", "a", "b"), bare("x", "")}, "x, y z, w a=b, x"},
		{[]api.Challenge{with("x", "a", "b", "c", "d"), with("y", "e", "f"), both}, `x a=b, c=d, y e=f, x abc= a=b, c="d e"`},
		// Scheme, Token and Name are told as they are.
		{[]api.Challenge{{}}, ""},
		{[]api.Challenge{{}, {}}, ", "},
		{[]api.Challenge{with("", "", "")}, ` =""`},
		{[]api.Challenge{bare("a b\n", "\x00,"), with("\xff", "n m\x01", "v")}, "a b\n \x00,, \xff n m\x01=v"},
		{slices.Repeat([]api.Challenge{bare("x", "")}, 1000), strings.Repeat("x, ", 999) + "x"},
	} {
		wantPrint(t, c.l, c.want, -1)
	}
}

func TestPrintWrong(t *testing.T) {
	for _, value := range []string{"\x00", "\n", "\x1f", "\x7f", "a\rb", "\xff\x01", strings.Repeat("a", 1000) + "\x08"} {
		bad := with("x", "a", value)
		last := with("x", "a", "b", "c", "d e", "f", value)
		first := with("x", "a", value, "b", "c")
		for _, wrong := range []api.Challenge{bad, last, first} {
			for n := range 12 {
				l := slices.Repeat([]api.Challenge{with("y", "a", "b")}, n)
				wantPrint(t, append(l, wrong), "", n)
				wantPrint(t, append(l, wrong, bare("z", "")), "", n)
				wantPrint(t, append(l, wrong, bad), "", n)
			}
		}
	}
}

// TestPrintOfEachByte: a value of each byte, alone and beside others.
func TestPrintOfEachByte(t *testing.T) {
	const word = "0123456789abcdefghijklmnopqrstuvwxyzABCDEFGHIJKLMNOPQRSTUVWXYZ!#$%&'*+-.^_`|~"
	for c := range 256 {
		one := string([]byte{byte(c)})
		l := []api.Challenge{bare("y", ""), with("x", "a", "b"+one)}
		switch {
		case c < 32 && c != 9 || c == 127:
			wantPrint(t, l, "", 1)
		case strings.Contains(word, one):
			wantPrint(t, l, "y, x a=b"+one, -1)
		case c == '"' || c == '\\':
			wantPrint(t, l, `y, x a="b\`+one+`"`, -1)
		default:
			wantPrint(t, l, `y, x a="b`+one+`"`, -1)
		}
	}
}

// TestPrintIsParsed: what is written is read.
func TestPrintIsParsed(t *testing.T) {
	all := []api.Challenge{
		bare("Basic", ""), bare("x", "abc=="), bare("y", "/"), with("z", "a", "b"), with("Digest", "realm", `a "b" \c, d=e`, "nonce", "", "QOP", "auth, auth-int"), with("w", "!", "\t\xff", "b", "=", "c", ","),
	}
	for n := range 9 {
		for from := range all {
			var l []api.Challenge
			for i := range n {
				l = append(l, all[(from+i*i)%len(all)])
			}
			s, err := Print(l)
			wantErr(t, "Print", l, err, api.OK, -1)
			wantParse(t, s, l, api.OK, -1)
		}
	}
	each([]string{"x", " a=b", " abc=", ", ", `,c="d"`, " e"}, 6, func(s string) {
		l, err := Parse(s)
		if err != nil {
			return
		}
		text, err := Print(l)
		wantErr(t, "Print", l, err, api.OK, -1)
		wantParse(t, text, l, api.OK, -1)
	})
}

func TestGet(t *testing.T) {
	x := with("Digest", "Realm", "r", "NONCE", "n", "realm", "s", "empty", "", "", "none", "a b", "c", "empty", "full")
	x.Token = "token"
	for _, name := range []string{"realm", "Realm", "REALM", "rEaLm"} {
		wantGet(t, x, name, "r", true)
	}
	wantGet(t, x, "nonce", "n", true)
	wantGet(t, x, "empty", "", true)
	wantGet(t, x, "Empty", "", true)
	wantGet(t, x, "", "none", true)
	wantGet(t, x, "A B", "c", true)
	for _, name := range []string{"real", "realms", "Digest", "token", "r", " realm", "realm ", "\x00", "Réalm", strings.Repeat("realm", 1000)} {
		wantGet(t, x, name, "", false)
	}
	for _, none := range []api.Challenge{{}, bare("realm", "realm")} {
		wantGet(t, none, "realm", "", false)
		wantGet(t, none, "", "", false)
	}
	// Letters of ASCII alone are alike, great and small.
	wantGet(t, with("x", "É", "1", "\u212a", "2", "^", "3"), "é", "", false)
	wantGet(t, with("x", "É", "1", "\u212a", "2", "^", "3"), "k", "", false)
	wantGet(t, with("x", "É", "1", "\u212a", "2", "^", "3"), "~", "", false)
}

// 5.3

// sums is a challenge that can be answered, with other parameters behind.
func sums(pairs ...string) api.Challenge {
	return with("Digest", append([]string{"realm", "r", "nonce", "n"}, pairs...)...)
}

// asks is what that one asks for, of an algorithm.
func asks(scheme int) api.Ask { return api.Ask{Scheme: scheme, Realm: "r", Nonce: "n"} }

func TestKnownSchemes(t *testing.T) {
	for _, scheme := range []string{"Basic", "basic", "BASIC", "bAsIc"} {
		wantKnown(t, with(scheme, "realm", "a b"), api.Ask{Scheme: api.Basic, Realm: "a b"}, true)
		wantKnown(t, with(scheme, "Realm", ""), api.Ask{Scheme: api.Basic}, true)
		wantKnown(t, with(scheme, "nonce", "n"), api.Ask{}, false)
		wantKnown(t, bare(scheme, ""), api.Ask{}, false)
		wantKnown(t, bare(scheme, "realm"), api.Ask{}, false)
		// Of Basic all else doesn't matter, nor does it come out.
		wantKnown(t, with(scheme, "nonce", "n", "algorithm", "x", "qop", "(", "opaque", "o", "stale", "true", "domain", "/", "realm", "r", "realm", "s"), api.Ask{Scheme: api.Basic, Realm: "r"}, true)
	}
	for _, scheme := range []string{"Digest", "digest", "DIGEST", "dIgEsT"} {
		wantKnown(t, with(scheme, "realm", "r", "nonce", "n"), asks(api.DigestMD5), true)
		wantKnown(t, with(scheme, "NONCE", "n", "REALM", "r"), asks(api.DigestMD5), true)
		wantKnown(t, with(scheme, "realm", "", "nonce", ""), api.Ask{Scheme: api.DigestMD5}, true)
		wantKnown(t, with(scheme, "realm", "r", "nonce", "n", "realm", "s", "nonce", "m"), asks(api.DigestMD5), true)
		wantKnown(t, with(scheme, "nonce", "n"), api.Ask{}, false)
		wantKnown(t, with(scheme, "realm", "r"), api.Ask{}, false)
		wantKnown(t, with(scheme, "realm", "r", "cnonce", "n"), api.Ask{}, false)
		wantKnown(t, bare(scheme, "realm"), api.Ask{}, false)
	}
	for _, scheme := range []string{"", "Negotiate", "NTLM", "Bearer", "Basi", "Basics", "Digest ", " Digest", "DigestMD5", "MD5", "D\u0131gest", "\x00"} {
		wantKnown(t, with(scheme, "realm", "r", "nonce", "n"), api.Ask{}, false)
	}
}

func TestKnownAlgorithms(t *testing.T) {
	for _, c := range []struct {
		name   string
		scheme int
		sess   bool
	}{
		{"MD5", api.DigestMD5, false}, {"md5", api.DigestMD5, false}, {"Md5", api.DigestMD5, false},
		{"MD5-sess", api.DigestMD5, true}, {"md5-sess", api.DigestMD5, true}, {"MD5-SESS", api.DigestMD5, true},
		{"SHA-256", api.DigestSHA, false}, {"sha-256", api.DigestSHA, false}, {"Sha-256", api.DigestSHA, false},
		{"SHA-256-sess", api.DigestSHA, true}, {"sha-256-SESS", api.DigestSHA, true}, {"SHA-256-sESS", api.DigestSHA, true},
	} {
		want := asks(c.scheme)
		want.Sess = c.sess
		wantKnown(t, sums("algorithm", c.name), want, true)
		wantKnown(t, sums("ALGORITHM", c.name, "algorithm", "x"), want, true)
	}
	for _, name := range []string{"", " ", "-sess", "x", "MD", "MD55", "MD5 ", " MD5", "MD5-", "MD5-ses", "MD5-sesss", "MD5sess", "MD5-sess-sess", "SHA", "SHA256", "SHA-256-", "SHA-512", "SHA-512-256", "SHA-512-256-sess", "SHA-256-sess-sess", "MD5,SHA-256", "\x00"} {
		wantKnown(t, sums("algorithm", name), api.Ask{}, false)
		wantKnown(t, sums("algorithm", name, "algorithm", "MD5"), api.Ask{}, false)
		wantKnown(t, with("Basic", "realm", "r", "algorithm", name), api.Ask{Scheme: api.Basic, Realm: "r"}, true)
	}
}

func TestKnownQop(t *testing.T) {
	forty := strings.Repeat("x,", 39)
	for _, c := range []struct{ text, want string }{
		{"auth", "auth"}, {"AUTH", "auth"}, {"auth-int", "auth-int"}, {"Auth-Int", "auth-int"},
		{"auth,auth-int", "auth"}, {"auth-int,auth", "auth"}, {"auth-int , AUTH", "auth"}, {"AUTH-INT,auth-int", "auth-int"},
		{"x,auth", "auth"}, {"auth,x", "auth"}, {"x,auth-int,y", "auth-int"}, {" ,\t,auth ,", "auth"}, {"\tauth-int\t", "auth-int"}, {"auth,auth", "auth"},
		{forty + "auth", "auth"}, {forty + "auth-int", "auth-int"}, {"auth-int," + forty + ",", "auth-int"},
	} {
		want := asks(api.DigestMD5)
		want.Qop = c.want
		wantKnown(t, sums("qop", c.text), want, true)
		wantKnown(t, sums("Qop", c.text, "qop", "x"), want, true)
	}
	for _, text := range []string{
		"", " ", ",", ", ,", "x", "x,y", "aut", "auths", "auth-", "auth-in", "auth-ints", "auth-conf", "authauth-int", "int",
		"auth auth-int", "auth;", "auth,=", "=,auth", "auth,\"x\"", `"auth"`, "auth/int", "auth\n", "auth,\xff", "auth-int,(", "\x00",
		forty + "x,auth", "auth," + forty + "x", "auth-int," + forty + "x",
	} {
		wantKnown(t, sums("qop", text), api.Ask{}, false)
		wantKnown(t, sums("qop", text, "qop", "auth"), api.Ask{}, false)
		wantKnown(t, with("Basic", "realm", "r", "qop", text), api.Ask{Scheme: api.Basic, Realm: "r"}, true)
	}
}

func TestKnownOpaqueAndStale(t *testing.T) {
	for _, text := range []string{"", "o", "a b", "\xff", `"`} {
		want := asks(api.DigestMD5)
		want.Opaque = text
		wantKnown(t, sums("opaque", text), want, true)
		wantKnown(t, sums("OPAQUE", text, "opaque", "p"), want, true)
	}
	for _, text := range []string{"true", "TRUE", "True", "tRuE"} {
		want := asks(api.DigestMD5)
		want.Stale = true
		wantKnown(t, sums("stale", text), want, true)
		wantKnown(t, sums("Stale", text, "stale", "false"), want, true)
	}
	for _, text := range []string{"", "false", "FALSE", "tru", "truee", " true", "true ", "1", "yes", "t", "\x00"} {
		wantKnown(t, sums("stale", text), asks(api.DigestMD5), true)
		wantKnown(t, sums("stale", text, "stale", "true"), asks(api.DigestMD5), true)
	}
}

func TestKnownDomain(t *testing.T) {
	for _, c := range []struct {
		text  string
		paths []string
	}{
		{"", nil}, {" ", nil}, {"   ", nil}, {"a", nil}, {"a/", nil}, {"./a", nil}, {"http://x/", nil}, {"http://x/ https://y/z", nil}, {"\t/a", nil}, {"?/", nil},
		{"/", []string{"/"}}, {"/a", []string{"/a"}}, {"/a/ /b http://x/", []string{"/a/", "/b"}}, {"http://x/ /b a /c", []string{"/b", "/c"}},
		{"  /a   /b  ", []string{"/a", "/b"}}, {"/a /a", []string{"/a", "/a"}}, {"/b /a", []string{"/b", "/a"}},
		{"/a/../b", []string{"/b"}}, {"/.", []string{"/"}}, {"/..", []string{"/"}}, {"/a/./b/..", []string{"/a/"}}, {"/../.. /x/.", []string{"/", "/x/"}},
		{"//x/y", []string{"//x/y"}}, {"/a?b#c", []string{"/a?b#c"}}, {"/A%2e", []string{"/A%2e"}},
		// A tab is no blank, and no other byte is.
		{"/a\t/b", []string{"/a\t/b"}}, {"/a\n/b", []string{"/a\n/b"}}, {"/a\u00a0/b", []string{"/a\u00a0/b"}}, {"/a,/b", []string{"/a,/b"}}, {"/a\t/.. /b", []string{"/", "/b"}}, {"/\xff", []string{"/\xff"}},
		{strings.Repeat("/a ", 1000), slices.Repeat([]string{"/a"}, 1000)},
	} {
		want := asks(api.DigestMD5)
		want.Domain = c.paths
		wantKnown(t, sums("domain", c.text), want, true)
		wantKnown(t, sums("Domain", c.text, "domain", "/z"), want, true)
	}
}

func TestKnownWhole(t *testing.T) {
	l, err := Parse(`DIGEST Realm="a b", NONCE="n=", qop="auth-int, AUTH", algorithm=sha-256-SESS, Opaque="o p", STALE=True, domain="/x/../y http://z/ /w"`)
	if err != nil || len(l) != 1 {
		t.Fatalf("Parse = %q, %v", l, err)
	}
	want := api.Ask{Scheme: api.DigestSHA, Realm: "a b", Nonce: "n=", Opaque: "o p", Sess: true, Qop: "auth", Stale: true, Domain: []string{"/y", "/w"}}
	wantKnown(t, l[0], want, true)
	wantBest(t, l, want, true)
	// Any one thing that is wrong is enough, wherever it stands.
	for _, wrong := range []api.Challenge{
		sums("algorithm", "x", "qop", "auth"), sums("algorithm", "MD5", "qop", "x"), sums("algorithm", "x", "qop", "x"), sums("stale", "true", "qop", "("), with("Digest", "realm", "r", "qop", "auth", "domain", "/"),
	} {
		wantKnown(t, wrong, api.Ask{}, false)
		wantBest(t, []api.Challenge{wrong}, api.Ask{}, false)
	}
}

func TestBestOfNone(t *testing.T) {
	wantBest(t, nil, api.Ask{}, false)
	wantBest(t, []api.Challenge{}, api.Ask{}, false)
	wantBest(t, []api.Challenge{{}}, api.Ask{}, false)
	wantBest(t, []api.Challenge{with("x", "realm", "r"), bare("Basic", ""), sums("algorithm", "SHA-512"), with("Digest", "realm", "r"), sums("qop", "")}, api.Ask{}, false)
}

// TestBest: every row of at most five challenges, of each scheme and of none that is known; realms tell them apart.
func TestBest(t *testing.T) {
	kinds := []func(realm string) api.Challenge{
		func(realm string) api.Challenge {
			return with("Digest", "realm", realm, "nonce", "n", "algorithm", "SHA-512")
		},
		func(realm string) api.Challenge { return with("Basic", "realm", realm) },
		func(realm string) api.Challenge { return with("Digest", "realm", realm, "nonce", "n") },
		func(realm string) api.Challenge {
			return with("Digest", "realm", realm, "nonce", "n", "algorithm", "SHA-256")
		},
	}
	each([]string{"0", "1", "2", "3"}, 5, func(row string) {
		var l []api.Challenge
		for i := range len(row) {
			l = append(l, kinds[row[i]-'0'](fmt.Sprint("r", i)))
		}
		for _, scheme := range []int{3, 2, 1} {
			if i := strings.IndexByte(row, byte('0'+scheme)); i >= 0 {
				want := api.Ask{Scheme: scheme, Realm: fmt.Sprint("r", i)}
				if scheme > 1 {
					want.Nonce = "n"
				}
				wantBest(t, l, want, true)
				return
			}
		}
		wantBest(t, l, api.Ask{}, false)
	})
}

// TestBestTakesNoHeed: of one scheme the first one counts, whatever else it asks for.
func TestBestTakesNoHeed(t *testing.T) {
	one, other := sums("qop", "auth-int"), sums("algorithm", "MD5-sess", "qop", "auth", "stale", "true")
	first := asks(api.DigestMD5)
	first.Qop = "auth-int"
	wantBest(t, []api.Challenge{one, other}, first, true)
	second := asks(api.DigestMD5)
	second.Qop, second.Sess, second.Stale = "auth", true, true
	wantBest(t, []api.Challenge{other, one}, second, true)
	wantBest(t, []api.Challenge{with("Basic", "realm", "r"), bare("x", "y"), other, one, with("Basic", "realm", "r")}, second, true)
}

// P4

// TestWritesNothing: neither into lists that are handed in nor behind them.
func TestWritesNothing(t *testing.T) {
	params := sums("domain", "/a/../b /c", "qop", "AUTH", "z", "y").Params
	all := []api.Challenge{bare("x", ""), {Scheme: "Digest", Params: params[:4]}, bare("y", "z")}
	keptAll, keptParams := slices.Clone(all), slices.Clone(params)
	Print(all[:2])
	Best(all[:2])
	Known(all[1])
	Get(all[1], "z")
	if !slices.EqualFunc(all, keptAll, sameChallenge) || !slices.Equal(params, keptParams) {
		t.Errorf("left %q of %q", all, keptAll)
	}
}

func TestFreshMemory(t *testing.T) {
	text := strings.Repeat("/text", 10)
	x := with("Digest", "realm", text, "nonce", text, "opaque", text, "domain", text)
	got, _ := Get(x, "realm")
	apart(t, "Get", text, got)
	for _, call := range []func() (api.Ask, bool){
		func() (api.Ask, bool) { return Known(x) },
		func() (api.Ask, bool) { return Best([]api.Challenge{x}) },
	} {
		a, ok := call()
		if !ok || len(a.Domain) != 1 {
			t.Fatalf("Known(%q) = %v, %v", x, a, ok)
		}
		for _, out := range []string{a.Realm, a.Nonce, a.Opaque, a.Domain[0]} {
			apart(t, "Known", text, out)
		}
		a.Domain[0] = "/x"
	}
	s, _ := Print([]api.Challenge{bare(text, "")})
	apart(t, "Print", text, s)
}

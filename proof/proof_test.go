package proof

import (
	"encoding/base64"
	"fmt"
	"math"
	"slices"
	"strings"
	"testing"

	"gatepost/api"
	"gatepost/ask"
	"gatepost/coding"
)

// 6.1

func TestBasic(t *testing.T) {
	for _, c := range []struct{ user, pass, want string }{
		{"Aladdin", "open sesame", "Basic QWxhZGRpbjpvcGVuIHNlc2FtZQ=="},
		{"", "", "Basic Og=="},
		{"", "p", "Basic OnA="},
		{"u", "", "Basic dTo="},
		{"u", ":", "Basic dTo6"},
		{"u", "a:b:", "Basic dTphOmI6"},
		{"", ":::", "Basic Ojo6Og=="},
		{"é", "\xff\x80", "Basic w6k6/4A="},
		{" ", "~", "Basic IDp+"},
	} {
		wantBasic(t, api.Creds{User: c.user, Pass: c.pass}, c.want, api.OK)
	}
}

func TestBasicWrong(t *testing.T) {
	for _, user := range []string{":", ":a", "a:b", "a:", "::", strings.Repeat("a", 1000) + ":", "\xff:"} {
		for _, pass := range []string{"", "p", ":", "\x00", "\x7f"} {
			wantBasic(t, api.Creds{User: user, Pass: pass}, "", api.ErrArg)
		}
	}
	// The one that is told first is answered, wherever both stand.
	for _, user := range []string{":\x00", "\x00:", "\x7f:", "a\nb:c", "a:b\nc", ":\x1f"} {
		wantBasic(t, api.Creds{User: user, Pass: "p"}, "", api.ErrArg)
		wantBasic(t, api.Creds{User: user, Pass: "\x01"}, "", api.ErrArg)
	}
	for _, c := range []api.Creds{
		{User: "\x00"}, {Pass: "\x00"}, {User: "a\tb", Pass: "p"}, {User: "u", Pass: "a\tb"}, {User: "\n", Pass: "\n"}, {User: "u", Pass: ":\x7f"}, {User: strings.Repeat("a", 1000) + "\r"}, {Pass: strings.Repeat("é", 1000) + "\x1f"},
	} {
		wantBasic(t, c, "", api.ErrForm)
	}
}

// TestBasicOfEachByte: in a user and in a password, alone and beside others.
func TestBasicOfEachByte(t *testing.T) {
	for c := range 256 {
		one := string([]byte{byte(c)})
		for _, s := range []string{one, one + "bc", "a" + one + "c", "ab" + one} {
			user, pass := api.Creds{User: s, Pass: "p"}, api.Creds{User: "u", Pass: s}
			asUser := "Basic " + base64.StdEncoding.EncodeToString([]byte(s+":p"))
			asPass := "Basic " + base64.StdEncoding.EncodeToString([]byte("u:"+s))
			switch {
			case c < 32 || c == 127:
				wantBasic(t, user, "", api.ErrForm)
				wantBasic(t, pass, "", api.ErrForm)
			case c == ':':
				wantBasic(t, user, "", api.ErrArg)
				wantBasic(t, pass, asPass, api.OK)
			default:
				wantBasic(t, user, asUser, api.OK)
				wantBasic(t, pass, asPass, api.OK)
			}
		}
	}
}

// TestBasicIsRead: what is written is read: the first colon ends the user's name.
func TestBasicIsRead(t *testing.T) {
	for _, c := range []api.Creds{{}, {User: "u"}, {Pass: "p"}, {User: "u v", Pass: "a:b"}, {User: "é\xff", Pass: ":"}, {User: strings.Repeat("u", 999), Pass: strings.Repeat("p:", 999)}} {
		s, err := Basic(c)
		wantErr(t, "Basic", c, err, api.OK)
		l, err := ask.Parse(s)
		if len(s) <= api.MaxText && (err != nil || len(l) != 1 || l[0].Scheme != "Basic" || l[0].Token != s[6:]) {
			t.Errorf("Parse(%q) = %q, %v", s, l, err)
		}
		text, err := coding.Unbase64(s[6:])
		user, pass, _ := strings.Cut(text, ":")
		if err != nil || user != c.User || pass != c.Pass {
			t.Errorf("%q is read as %q, %q, %v", c, user, pass, err)
		}
	}
}

func TestCount(t *testing.T) {
	for _, c := range []struct {
		n    int
		want string
	}{
		{0, "00000000"},
		{1, "00000001"},
		{9, "00000009"},
		{10, "0000000a"},
		{15, "0000000f"},
		{16, "00000010"},
		{255, "000000ff"},
		{256, "00000100"},
		{0xabcdef, "00abcdef"},
		{1<<28 - 1, "0fffffff"},
		{1 << 28, "10000000"},
		{1<<31 - 1, "7fffffff"},
		{1 << 31, "80000000"},
		{api.MaxCount, "ffffffff"},
		{1 << 32, "100000000"},
		{0x123456789abcdef, "123456789abcdef"},
		{math.MaxInt, "7fffffffffffffff"},
	} {
		if got := Count(c.n); got != c.want {
			t.Errorf("Count(%d) = %q; want %q", c.n, got, c.want)
		}
	}
	for bit := range 63 {
		for less := range 3 {
			n := max(0, 1<<bit-less)
			if got, want := Count(n), fmt.Sprintf("%08x", n); got != want {
				t.Errorf("Count(%d) = %q; want %q", n, got, want)
			}
		}
	}
	// Of numbers below 0 nothing is told, but that the call ends.
	for _, n := range []int{-1, -1 << 32, math.MinInt} {
		Count(n)
	}
}

// 6.2

// TestResponseExamples: those of RFC 2617, 3.5, and RFC 7616, 3.9.1.
func TestResponseExamples(t *testing.T) {
	wantResponse(t, mufasa(), "6629fae49393a05397450978507c4ef1")
	r := request{
		a:      api.Ask{Scheme: api.DigestMD5, Realm: "http-auth@example.org", Nonce: "7ypf/xlj9XXwfDPEoM4URrv/xwf94BcCAzFZH4GiTo0v", Qop: "auth"},
		c:      api.Creds{User: "Mufasa", Pass: "Circle of Life"},
		method: "GET", target: "/dir/index.html", cnonce: "f2/wE4q74E6zIJEtWaHKaf5wv/H5QzzpXusqGemxURZJ", n: 1,
	}
	wantResponse(t, r, "8ca523f5e9506fed4657c9700eebdbec")
	r.a.Scheme = api.DigestSHA
	wantResponse(t, r, "753927fa0e85d155564e2e272a28d1802ca10daf4496794697cf8db5856cb6c1")
}

// TestResponse: by each sum, with Sess and without, by each qop.
func TestResponse(t *testing.T) {
	for _, scheme := range []int{math.MinInt, -1, 0, api.Basic, api.DigestMD5, api.DigestSHA, 4, math.MaxInt} {
		for _, qop := range []string{"", "auth", "auth-int", "x", "AUTH", "AUTH-INT", "Auth-Int", "auth,auth-int", "auth-int ", "\x00", ":"} {
			for _, sess := range []bool{false, true} {
				for _, body := range []string{"", "b", "a long body", "\x00\xff:\n"} {
					for _, n := range []int{0, 1, 255, api.MaxCount, 1 << 32, math.MaxInt} {
						r := letters(scheme, qop, sess).with(func(r *request) { r.body, r.n = body, n })
						wantResponse(t, r, r.ruleResponse())
					}
				}
			}
		}
	}
}

// TestResponseWords: what is summed, written out.
func TestResponseWords(t *testing.T) {
	h := func(s string) string { return summed(api.DigestMD5, s) }
	for _, c := range []struct {
		qop  string
		sess bool
		want string
	}{
		{"", false, h(h("u:r:p") + ":n:" + h("M:/t"))},
		{"", true, h(h(h("u:r:p")+":n:c") + ":n:" + h("M:/t"))},
		{"auth", false, h(h("u:r:p") + ":n:0000002a:c:auth:" + h("M:/t"))},
		{"auth", true, h(h(h("u:r:p")+":n:c") + ":n:0000002a:c:auth:" + h("M:/t"))},
		{"auth-int", false, h(h("u:r:p") + ":n:0000002a:c:auth-int:" + h("M:/t:"+h("b")))},
		{"auth-int", true, h(h(h("u:r:p")+":n:c") + ":n:0000002a:c:auth-int:" + h("M:/t:"+h("b")))},
		{"x", false, h(h("u:r:p") + ":n:0000002a:c:x:" + h("M:/t"))},
		{"AUTH-INT", false, h(h("u:r:p") + ":n:0000002a:c:AUTH-INT:" + h("M:/t"))},
	} {
		wantResponse(t, letters(api.DigestMD5, c.qop, c.sess), c.want)
		wantResponse(t, letters(0, c.qop, c.sess), c.want)
	}
}

// TestResponseOfTexts: each text with colons, empty, long, and of other bytes.
func TestResponseOfTexts(t *testing.T) {
	everyWay(func(r request) {
		for _, p := range append(quotedPlaces(), otherPlaces()...) {
			for _, s := range []string{"", ":", ":x", "x:", "a:b", "::", "\x00", "\n\x7f\xff", `"\`, "%s%d", strings.Repeat("a:", 2000)} {
				r := r.with(func(r *request) { *p.text(r) = s })
				wantResponse(t, r, r.ruleResponse())
			}
		}
		r.a, r.c = api.Ask{Scheme: r.a.Scheme, Qop: r.a.Qop, Sess: r.a.Sess}, api.Creds{}
		r.method, r.target, r.body, r.cnonce, r.n = "", "", "", "", 0
		wantResponse(t, r, r.ruleResponse())
	})
}

// TestResponseOfWhatMatters: just what is summed changes it.
func TestResponseOfWhatMatters(t *testing.T) {
	everyWay(func(r request) {
		first, hasQop := r.response(), r.a.Qop != ""
		for _, c := range []struct {
			name    string
			change  func(*request)
			matters bool
		}{
			{"user", func(r *request) { r.c.User = "x" }, true},
			{"pass", func(r *request) { r.c.Pass = "x" }, true},
			{"realm", func(r *request) { r.a.Realm = "x" }, true},
			{"nonce", func(r *request) { r.a.Nonce = "x" }, true},
			{"method", func(r *request) { r.method = "x" }, true},
			{"target", func(r *request) { r.target = "x" }, true},
			{"body", func(r *request) { r.body = "x" }, r.a.Qop == "auth-int"},
			{"cnonce", func(r *request) { r.cnonce = "x" }, hasQop || r.a.Sess},
			{"n", func(r *request) { r.n++ }, hasQop},
			{"opaque", func(r *request) { r.a.Opaque = "x" }, false},
			{"stale", func(r *request) { r.a.Stale = true }, false},
			{"domain", func(r *request) { r.a.Domain = []string{"/x"} }, false},
		} {
			if got := r.with(c.change).response() != first; got != c.matters {
				t.Errorf("Response(%s): whether %s matters: %v", r, c.name, got)
			}
		}
	})
}

// 6.3

func TestDigestExample(t *testing.T) {
	wantDigest(t, mufasa(), `Digest username="Mufasa", realm="testrealm@host.com", nonce="dcd98b7102dd2f0e8b11d0f600bfb0c093", uri="/dir/index.html", response="6629fae49393a05397450978507c4ef1", algorithm=MD5, qop=auth, nc=00000001, cnonce="0a4f113b", opaque="5ccc069c403ebaf9f0171e9517f40e41"`, api.OK)
}

// TestDigestWays: with and without Sess, cnonce, opaque and qop, in all ways.
func TestDigestWays(t *testing.T) {
	for _, c := range []struct {
		qop  string
		sess bool
		want string
	}{
		{"", false, "MD5"},
		{"", true, `MD5-sess, cnonce="CNONCE"`},
		{"auth", false, `MD5, qop=auth, nc=0000002a, cnonce="CNONCE"`},
		{"auth", true, `MD5-sess, qop=auth, nc=0000002a, cnonce="CNONCE"`},
		{"auth-int", false, `MD5, qop=auth-int, nc=0000002a, cnonce="CNONCE"`},
		{"auth-int", true, `MD5-sess, qop=auth-int, nc=0000002a, cnonce="CNONCE"`},
	} {
		for _, scheme := range []int{api.DigestMD5, api.DigestSHA} {
			for _, cnonce := range []string{"", "c"} {
				for _, opaque := range []string{"", "o"} {
					r := letters(scheme, c.qop, c.sess).with(func(r *request) { r.cnonce, r.a.Opaque = cnonce, opaque })
					want := `Digest username="u", realm="r", nonce="n", uri="/t", response="` + r.ruleResponse() + `", algorithm=` + strings.ReplaceAll(c.want, "CNONCE", cnonce)
					if scheme == api.DigestSHA {
						want = strings.Replace(want, "algorithm=MD5", "algorithm=SHA-256", 1)
					}
					if opaque != "" {
						want += `, opaque="o"`
					}
					wantDigest(t, r, want, api.OK)
				}
			}
		}
	}
}

// TestDigestOfSchemesAndQops: both sums and three qops alone are known.
func TestDigestOfSchemesAndQops(t *testing.T) {
	for _, scheme := range []int{math.MinInt, -2, -1, 0, api.Basic, api.DigestMD5, api.DigestSHA, 4, 5, 258, 1<<32 + 2, math.MaxInt} {
		for _, qop := range []string{"", "auth", "auth-int", "AUTH", "Auth", "AUTH-INT", "auth-Int", "x", " ", "auth ", " auth", "auth,auth-int", "authint", "auth-", "auth-int\x00", `"auth"`} {
			for _, sess := range []bool{false, true} {
				r := letters(scheme, qop, sess)
				wantRule(t, r)
				isKnown := (scheme == 2 || scheme == 3) && slices.Contains([]string{"", "auth", "auth-int"}, qop)
				if _, err := r.digest(); (err == nil) != isKnown {
					t.Errorf("Digest of scheme %d, qop %q: %v", scheme, qop, err)
				}
			}
		}
	}
}

func TestDigestOfCounts(t *testing.T) {
	everyWay(func(r request) {
		for _, n := range []int{math.MinInt, -1 << 32, -2, -1, 0, api.MaxCount + 1, api.MaxCount + 2, 1<<32 + 5, math.MaxInt} {
			wantDigest(t, r.with(func(r *request) { r.n = n }), "", api.ErrRange)
		}
		for _, n := range []int{1, 2, 15, 16, 255, 1 << 31, api.MaxCount - 1, api.MaxCount} {
			r := r.with(func(r *request) { r.n = n })
			wantRule(t, r)
			if _, err := r.digest(); err != nil {
				t.Errorf("Digest(%s): %v", r, err)
			}
		}
	})
}

// TestDigestOfEachByte: in each of the texts between marks, also where that text is left out, and in the others.
func TestDigestOfEachByte(t *testing.T) {
	everyWay(func(r request) {
		leftOut := r.a.Qop == "" && !r.a.Sess
		for c := range 256 {
			one := string([]byte{byte(c)})
			for _, s := range []string{one, one + "b", "a" + one, "a" + one + "b"} {
				for _, p := range quotedPlaces() {
					r := r.with(func(r *request) { *p.text(r) = s })
					wantRule(t, r)
					bad := (c < 32 && c != 9 || c == 127) && !(leftOut && p.name == "cnonce")
					if _, err := r.digest(); (err != nil) != bad {
						t.Errorf("Digest with %q as %s: %v", s, p.name, err)
					}
				}
				for _, p := range otherPlaces() {
					r := r.with(func(r *request) { *p.text(r) = s })
					wantRule(t, r)
					if _, err := r.digest(); err != nil {
						t.Errorf("Digest with %q as %s: %v", s, p.name, err)
					}
				}
			}
		}
	})
}

// TestDigestOfMarks: written out for one, by the rule for all.
func TestDigestOfMarks(t *testing.T) {
	r := letters(api.DigestMD5, "auth", false)
	r.c.User, r.a.Realm, r.a.Nonce, r.target, r.cnonce, r.a.Opaque = `"`, `\`, `a"b`, `\"`, `""`, "\\\t\\"
	wantDigest(t, r, `Digest username="\"", realm="\\", nonce="a\"b", uri="\\\"", response="`+r.ruleResponse()+`", algorithm=MD5, qop=auth, nc=0000002a, cnonce="\"\"", opaque="\\`+"\t"+`\\"`, api.OK)
	everyWay(func(r request) {
		for _, p := range quotedPlaces() {
			for _, s := range []string{"", `"`, `\`, `\"`, `"\`, `a "b" c`, `\\`, "%q", `, qop=x`, "\xff\"\t", strings.Repeat(`"`, 5000)} {
				wantRule(t, r.with(func(r *request) { *p.text(r) = s }))
			}
		}
	})
}

// TestDigestOfTwoErrors: the one that is told first is answered.
func TestDigestOfTwoErrors(t *testing.T) {
	spoil := []struct {
		e      api.Errno
		change func(*request)
	}{
		{api.ErrArg, func(r *request) { r.a.Scheme = api.Basic }},
		{api.ErrArg, func(r *request) { r.a.Qop = "x" }},
		{api.ErrRange, func(r *request) { r.n = 0 }},
		{api.ErrForm, func(r *request) { r.c.User = "\x00" }},
		{api.ErrForm, func(r *request) { r.a.Opaque = "\x7f" }},
	}
	everyWay(func(r request) {
		for which := 1; which < 1<<len(spoil); which++ {
			r, first := r, api.OK
			for i, s := range spoil {
				if which>>i&1 == 1 {
					s.change(&r)
					if first == api.OK {
						first = s.e
					}
				}
			}
			wantDigest(t, r, "", first)
		}
	})
}

// TestDigestIsRead: what is written is read, as a challenge is.
func TestDigestIsRead(t *testing.T) {
	everyWay(func(r request) {
		r.c.User, r.a.Realm, r.target, r.a.Opaque = `a "b"`, `c\, d=e`, "/f?g", "\t\xff"
		s, err := r.digest()
		wantErr(t, "Digest", r, err, api.OK)
		l, err := ask.Parse(s)
		if err != nil || len(l) != 1 || l[0].Scheme != "Digest" {
			t.Fatalf("Parse(%q) = %q, %v", s, l, err)
		}
		for _, p := range []api.Param{{Name: "username", Value: r.c.User}, {Name: "realm", Value: r.a.Realm}, {Name: "nonce", Value: r.a.Nonce}, {Name: "uri", Value: r.target}, {Name: "response", Value: r.response()}, {Name: "opaque", Value: r.a.Opaque}} {
			if got, ok := ask.Get(l[0], p.Name); got != p.Value || !ok {
				t.Errorf("%s of %q is read as %q, %v; want %q", p.Name, s, got, ok, p.Value)
			}
		}
		// Its algorithm and qop are those that were asked for.
		a, ok := ask.Known(l[0])
		if !ok || a.Scheme != r.a.Scheme || a.Sess != r.a.Sess || a.Qop != r.a.Qop {
			t.Errorf("Known(%q) = %+v, %v; want %+v", s, a, ok, r.a)
		}
	})
}

// P4

// TestFresh: what comes out shares nothing with what went in, and the domain of what is asked for stays.
func TestFresh(t *testing.T) {
	everyWay(func(r request) {
		paths := []string{"/a", "/behind"}
		r.a.Domain = paths[:1]
		c := api.Creds{User: strings.Clone("user"), Pass: strings.Clone("pass")}
		r.c = c
		basic, _ := Basic(c)
		digest, _ := r.digest()
		response := r.response()
		for _, out := range []string{basic, digest, response} {
			for _, in := range []string{c.User, c.Pass} {
				apart(t, "proof", in, out)
			}
		}
		if again, _ := r.digest(); again != digest || r.response() != response || !slices.Equal(paths, []string{"/a", "/behind"}) {
			t.Errorf("Digest(%s): not the same once more", r)
		}
	})
}

func FuzzProof(f *testing.F) {
	f.Add(2, "auth", true, "u", "p", "r", "n", "o", "GET", "/", "body", "c", 1)
	f.Add(3, "auth-int", false, "u:", "\x00", "\"", "\\", "", "", "/\x7f", "", "", 0)
	f.Fuzz(func(t *testing.T, scheme int, qop string, sess bool, user, pass, realm, nonce, opaque, method, target, body, cnonce string, n int) {
		r := request{
			a:      api.Ask{Scheme: scheme, Realm: realm, Nonce: nonce, Opaque: opaque, Sess: sess, Qop: qop},
			c:      api.Creds{User: user, Pass: pass},
			method: method, target: target, body: body, cnonce: cnonce, n: n,
		}
		want, e := "Basic "+base64.StdEncoding.EncodeToString([]byte(user+":"+pass)), api.OK
		if strings.Contains(user, ":") {
			want, e = "", api.ErrArg
		} else if controls.MatchString(user + pass) {
			want, e = "", api.ErrForm
		}
		wantBasic(t, r.c, want, e)
		if n >= 0 {
			wantRule(t, r)
		} else {
			want, e := r.ruleDigest()
			wantDigest(t, r, want, e)
		}
	})
}

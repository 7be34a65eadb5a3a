package world

import (
	"fmt"
	"math"
	"slices"
	"strings"
	"testing"

	"gatepost/api"
	"gatepost/bank"
	"gatepost/proof"
)

// answer is a Reply of which nothing but What is told.
func answer(what int) api.Reply { return api.Reply{What: what} }

// wantDo asks for an operation's Reply.
func wantDo(t *testing.T, w *World, o api.Op, want api.Reply) {
	t.Helper()
	if got := w.Do(o); got != want {
		t.Errorf("Do(%+v) = %+v; want %+v", o, got, want)
	}
}

// wantSame asks for an operation's Reply, and that nothing is changed.
func wantSame(t *testing.T, w *World, o api.Op, want api.Reply) {
	t.Helper()
	before := tell(w)
	wantDo(t, w, o, want)
	same(t, fmt.Sprintf("behind %+v", o), tell(w), before)
}

// wantBank, wantBook and wantCerts: partition 0 has just these; no other partition has any.
func wantBank(t *testing.T, w *World, grants []api.Grant, waits []bank.Wait) {
	t.Helper()
	same(t, "Grants and Waits", tellBank(w, 0), each(tellGrant, grants)+each(tellWait, waits))
	for _, part := range partsBut(0) {
		same(t, "another partition", tellBank(w, part), "")
	}
}

func wantBook(t *testing.T, w *World, passes ...api.Pass) {
	t.Helper()
	same(t, "Passes", tellBook(w, 0), each(tellPass, passes))
	for _, part := range partsBut(0) {
		same(t, "another partition", tellBook(w, part), "")
	}
}

func wantCerts(t *testing.T, w *World, certs ...Cert) {
	t.Helper()
	same(t, "Certs", tellCerts(w, 0), each(tellCert, certs))
	for _, part := range partsBut(0) {
		same(t, "another partition", tellCerts(w, part), "")
	}
}

// oddity makes any operation an odd one, for one reason alone.
type oddity struct {
	name  string
	spoil change
}

func oddities() []oddity {
	l := []oddity{
		{"Text of one more than MaxText", told(strings.Repeat("a", api.MaxText+1))},
		{"a long Text that could be read", told("Basic realm=r" + strings.Repeat(" ", api.MaxText))},
		{"Path of one more than MaxPath", path("/" + strings.Repeat("a", api.MaxPath))},
		{"a long Path", path(strings.Repeat("/", 10*api.MaxPath))},
		{"too many Heads", heads(strings.Fields(strings.Repeat("X ", api.MaxList+1))...)},
		{"a Head of no WORD among others", heads("X-A", "X A", "X-B")},
		{"a Head without a Name", heads("")},
	}
	for _, what := range []int{0, -1, 11, 12, 255, math.MaxInt, math.MinInt} {
		l = append(l, oddity{fmt.Sprint("What ", what), func(o *api.Op) { o.What = what }})
	}
	for _, part := range []int{-1, 4, 5, 256, math.MaxInt, math.MinInt} {
		l = append(l, oddity{fmt.Sprint("Part ", part), in(part)})
	}
	for _, s := range []string{"", "a b", "GET ", "\xff", "a:b"} {
		l = append(l, oddity{fmt.Sprintf("Method %q", s), method(s)})
	}
	for _, o := range []api.Origin{{}, {Secure: true, Host: "B.test", Port: 443}, {Secure: true, Host: "b.test", Port: 0}, {Secure: true, Host: "b.test", Port: 65536}, {Host: "b.test", Port: -1}, {Host: "-b", Port: 80}, {Host: "", Port: 80}, {Host: strings.Repeat("a", api.MaxHost+1), Port: 80}} {
		l = append(l, oddity{fmt.Sprintf("From %+v", o), from(o)}, oddity{fmt.Sprintf("the URL's Origin %+v", o), to(o)})
	}
	for _, s := range []string{"", "a", "a/b", " /", "?", "\\", "\xaf"} {
		l = append(l, oddity{fmt.Sprintf("Path %q", s), path(s)})
	}
	return l
}

// fine are changes at the very edges of what isn't odd.
func fine() []oddity {
	l := []oddity{
		{"no change", func(*api.Op) {}},
		{"Path of MaxPath", path("/" + strings.Repeat("a", api.MaxPath-1))},
		{"Path that isn't clean", path("//../\xff\n?#")},
		{"a wild Query", query("?\n\xff" + strings.Repeat("q", 10_000))},
		{"a long Body", body(strings.Repeat("\x00", 100_000))},
		{"From of MaxHost", from(api.Origin{Host: strings.Repeat("a", api.MaxHost), Port: 65535})},
		{"the URL's Origin of MaxHost", to(api.Origin{Host: strings.Repeat("a", api.MaxHost), Port: 1})},
		{"From the same Origin", from(originB)},
		{"as many Heads as may be", heads(strings.Fields(strings.Repeat("X ", api.MaxList))...)},
		{"a Head's wild Value", func(o *api.Op) { o.Req.Heads = []api.Param{{Name: "a", Value: "\n\xff"}} }},
		{"a Method of one byte", method("~")},
		{"the last Part", in(api.MaxParts - 1)},
		{"With", with},
		{"Proxy", proxy},
		{"All", everything},
		{"wild Creds", by("\n:", "\xff")},
		{"a wild Cnonce", nonce(strings.Repeat("\x7f", 5000))},
	}
	return l
}

// TestOdd: each reason alone makes any operation Odd, and nothing is changed.
func TestOdd(t *testing.T) {
	w := full()
	for what := api.Attach; what <= api.Tick; what++ {
		for _, x := range oddities() {
			for _, text := range []string{"", "Basic realm=r", allowAny} {
				o := opOf(what, told(text), x.spoil)
				wantSame(t, w, o, answer(api.Odd))
				wantSame(t, New(), o, answer(api.Odd))
			}
			if t.Failed() {
				t.Fatalf("operation %d: %s", what, x.name)
			}
		}
	}
}

// TestNotOdd: just at the edge none is Odd.
func TestNotOdd(t *testing.T) {
	texts := map[int]string{api.Refused: "Basic realm=r", api.Allowed: "a:b"}
	for what := api.Attach; what <= api.Tick; what++ {
		for _, x := range fine() {
			o := opOf(what, told(texts[what]), x.spoil)
			if got := full().Do(o).What; got == api.Odd {
				t.Errorf("operation %d with %s: Odd", what, x.name)
			}
			// A Text that isn't looked at may be any.
			if what != api.Refused && what != api.Allowed {
				o.Text = strings.Repeat("\n", api.MaxText)
				if got := full().Do(o).What; got == api.Odd {
					t.Errorf("operation %d with %s and a Text of MaxText: Odd", what, x.name)
				}
			}
		}
	}
	challenge := "Basic realm=r"
	wantDo(t, New(), opOf(api.Refused, told(challenge+strings.Repeat(" ", api.MaxText-len(challenge)))), answer(api.Prompt))
	wantDo(t, New(), opOf(api.Allowed, told(allowAny+strings.Repeat("\n", api.MaxText-len(allowAny)))), answer(api.Done))
}

// granted lets a world have a grant by u and p, for what is asked for so.
func granted(t *testing.T, w *World, text string, changes ...change) {
	t.Helper()
	wantDo(t, w, opOf(api.Refused, append(slices.Clone(changes), told(text))...), answer(api.Prompt))
	wantDo(t, w, opOf(api.Answered, append([]change{by("u", "p")}, changes...)...), answer(api.Done))
}

// worldOf has grants for these.
func worldOf(t *testing.T, texts ...string) *World {
	t.Helper()
	w := New()
	for _, text := range texts {
		granted(t, w, text)
	}
	return w
}

// basic is the grant that Basic of a realm makes at b's /a/b.
func basic(realm string, count int) api.Grant {
	return api.Grant{Origin: originB, Creds: api.Creds{User: "u", Pass: "p"}, Ask: api.Ask{Scheme: api.Basic, Realm: realm}, Count: count, Paths: []string{"/a/"}}
}

// TestAttachNone: without a grant for the origin, Proxy, Path and partition.
func TestAttachNone(t *testing.T) {
	wantSame(t, New(), opOf(api.Attach), answer(api.None))
	w := worldOf(t, "Basic realm=r")
	for _, c := range []change{to(originA), to(api.Origin{Secure: true, Host: "b.test", Port: 444}), to(api.Origin{Host: "b.test", Port: 443}), proxy, path("/"), path("/a"), path("/ab"), path("/A/b"), in(1), in(3)} {
		wantSame(t, w, opOf(api.Attach, c), answer(api.None))
	}
	// What was asked for is no grant yet.
	wantDo(t, w, opOf(api.Refused, to(originC), told("Basic realm=r")), answer(api.Prompt))
	wantSame(t, w, opOf(api.Attach, to(originC)), answer(api.None))
	wantDo(t, w, opOf(api.Attach), api.Reply{What: api.Done, Head: "Basic dTpw"})
}

// TestAttachBasic: by user and password; the use is counted, and the grant is the last one.
func TestAttachBasic(t *testing.T) {
	w := worldOf(t, "Basic realm=r", `Digest realm=s, nonce=n, domain="/x/"`)
	digest := w.Grants(0)[1]
	for i, c := range []change{path("/a/b"), path("/a/"), path("/a/b/c"), query("\n"), method("patch"), nonce("\n"), body("b"), from(originC), with} {
		wantDo(t, w, opOf(api.Attach, c), api.Reply{What: api.Done, Head: "Basic dTpw"})
		wantBank(t, w, []api.Grant{digest, basic("r", i+1)}, nil)
	}
	// Just as with a proxy.
	w = New()
	granted(t, w, "Basic realm=r", proxy)
	wantDo(t, w, opOf(api.Attach, proxy, path("/")), api.Reply{What: api.Done, Head: "Basic dTpw"})
	wantSame(t, w, opOf(api.Attach), answer(api.None))
	w = New()
	granted(t, w, "Basic realm=r", by("Aladdin", "open sesame"))
	wantDo(t, w, opOf(api.Attach), api.Reply{What: api.Done, Head: "Basic QWxhZGRpbjpvcGVuIHNlc2FtZQ=="})
}

// TestAttachDigest: by each scheme, of Method, Target, Body, Cnonce and Count.
func TestAttachDigest(t *testing.T) {
	for algorithm, a := range map[string]api.Ask{
		"":                         {Scheme: api.DigestMD5},
		", algorithm=MD5":          {Scheme: api.DigestMD5},
		", algorithm=md5-sess":     {Scheme: api.DigestMD5, Sess: true},
		", algorithm=SHA-256":      {Scheme: api.DigestSHA},
		", algorithm=SHA-256-sess": {Scheme: api.DigestSHA, Sess: true},
	} {
		for qop, kept := range map[string]string{"": "", ", qop=AUTH": "auth", `, qop="auth-int,x"`: "auth-int"} {
			a.Realm, a.Nonce, a.Opaque, a.Qop = "r s", "n", "o", kept
			w := worldOf(t, `Digest realm="r s", nonce=n, opaque=o`+algorithm+qop)
			for n := 1; n <= 12; n++ {
				c := api.Creds{User: "u", Pass: "p"}
				plain, _ := proof.Digest(a, c, "GET", "/a/b", "", "", n)
				whole, _ := proof.Digest(a, c, "PUT", "/c?q=1", "body", "0a", n)
				odd, _ := proof.Digest(a, c, "patch", "/\xff", "", "0b", n)
				if n%3 == 0 {
					wantDo(t, w, opOf(api.Attach), api.Reply{What: api.Done, Head: plain})
				} else if n%3 == 1 {
					wantDo(t, w, opOf(api.Attach, method("put"), path("/c"), query("q=1"), body("body"), nonce("0a"), by("x", "y"), from(originC)), api.Reply{What: api.Done, Head: whole})
				} else {
					wantDo(t, w, opOf(api.Attach, method("patch"), path("/\xff"), nonce("0b"), heads("X-A"), with), api.Reply{What: api.Done, Head: odd})
				}
				wantBank(t, w, []api.Grant{{Origin: originB, Creds: c, Ask: a, Count: n, Paths: []string{"/"}}}, nil)
			}
		}
	}
}

// TestAttachExample: RFC 2617's, and its second use.
func TestAttachExample(t *testing.T) {
	w := New()
	granted(t, w, `Digest realm="testrealm@host.com", qop="auth,auth-int", nonce="dcd98b7102dd2f0e8b11d0f600bfb0c093", opaque="5ccc069c403ebaf9f0171e9517f40e41"`, by("Mufasa", "Circle Of Life"))
	o := opOf(api.Attach, path("/dir/index.html"), nonce("0a4f113b"))
	wantDo(t, w, o, api.Reply{What: api.Done, Head: `Digest username="Mufasa", realm="testrealm@host.com", nonce="dcd98b7102dd2f0e8b11d0f600bfb0c093", uri="/dir/index.html", response="6629fae49393a05397450978507c4ef1", algorithm=MD5, qop=auth, nc=00000001, cnonce="0a4f113b", opaque="5ccc069c403ebaf9f0171e9517f40e41"`})
	if head := w.Do(o).Head; !strings.Contains(head, " nc=00000002,") {
		t.Errorf("the second one: %s", head)
	}
}

// TestAttachUsedUp: a nonce that was used MaxCount times counts no more; the grant is gone.
func TestAttachUsedUp(t *testing.T) {
	for _, text := range []string{"Digest realm=r, nonce=n, qop=auth", "Basic realm=r"} {
		for count, left := range map[int]int{api.MaxCount - 2: 2, api.MaxCount - 1: 1, api.MaxCount: 0} {
			w := worldOf(t, "Digest realm=s, nonce=o, qop=auth", text)
			other := w.Grants(0)[0]
			g := w.Grants(0)[1]
			g.Count = count
			w.parts[0].bank.Put(g)
			for n := range left {
				reply := w.Do(opOf(api.Attach))
				if reply.What != api.Done || g.Ask.Scheme != api.Basic && !strings.Contains(reply.Head, " nc="+proof.Count(count+n+1)+",") {
					t.Errorf("%s, used %d times: %+v", text, count+n, reply)
				}
			}
			wantDo(t, w, opOf(api.Attach), answer(api.None))
			wantBank(t, w, []api.Grant{other}, nil)
			// Then another one counts.
			if reply := w.Do(opOf(api.Attach)); reply.What != api.Done || !strings.Contains(reply.Head, ` realm="s"`) {
				t.Errorf("behind it: %+v", reply)
			}
		}
	}
}

// TestAttachNoHeader: a grant by which no header can be made is dropped, and no other one.
func TestAttachNoHeader(t *testing.T) {
	for _, x := range []struct {
		text string
		c    []change
	}{
		{"Basic realm=r", []change{by("a:b", "p")}},
		{"Basic realm=r", []change{by("u", "\n")}},
		{"Basic realm=r", []change{by("u\x7f", "p")}},
		{"Digest realm=r, nonce=n", []change{by("u\n", "p")}},
		{"Digest realm=r, nonce=n", []change{query("\n")}},
		{"Digest realm=r, nonce=n", []change{path("/a/\x00")}},
		{"Digest realm=r, nonce=n, qop=auth", []change{nonce("\n")}},
		{"Digest realm=r, nonce=n, algorithm=SHA-256-sess", []change{nonce("\x7f")}},
	} {
		for _, also := range [][]change{nil, {proxy}, {in(0), to(originA)}} {
			w := New()
			granted(t, w, "Basic realm=s", append(slices.Clone(also), path("/"))...)
			granted(t, w, "Digest realm=r, nonce=o", to(originC))
			granted(t, w, "Basic realm=r", to(originC), proxy)
			granted(t, w, x.text, slices.Concat(also, x.c)...)
			wantDo(t, w, opOf(api.Refused, slices.Concat(also, []change{told("Basic realm=r")})...), answer(api.Prompt))
			granted(t, w, x.text, slices.Concat(also, x.c)...)
			wantDo(t, w, opOf(api.Refused, slices.Concat(also, []change{told("Basic realm=t")})...), answer(api.Prompt))
			rest, waits := w.Grants(0)[:3], w.Waits(0)
			wantDo(t, w, opOf(api.Attach, slices.Concat(also, x.c)...), answer(api.None))
			wantBank(t, w, rest, waits)
		}
	}
	// What isn't told may be anything.
	w := worldOf(t, "Digest realm=r, nonce=n")
	if reply := w.Do(opOf(api.Attach, nonce("\n"), body("\x00"))); reply.What != api.Done || reply.Head == "" {
		t.Errorf("a Cnonce that isn't told: %+v", reply)
	}
}

// TestAttachFarthest: the grant that reaches farthest counts; if it goes, the next one does.
func TestAttachFarthest(t *testing.T) {
	w := worldOf(t, "Digest realm=all, nonce=n")
	granted(t, w, "Basic realm=deep", path("/a/b/c"), by("a:b", "p"))
	granted(t, w, "Basic realm=r")
	wantDo(t, w, opOf(api.Attach, path("/a/x")), api.Reply{What: api.Done, Head: "Basic dTpw"})
	wantDo(t, w, opOf(api.Attach, path("/a/b/")), answer(api.None))
	wantDo(t, w, opOf(api.Attach, path("/a/b/")), api.Reply{What: api.Done, Head: "Basic dTpw"})
	if reply := w.Do(opOf(api.Attach, path("/x"))); !strings.Contains(reply.Head, `realm="all"`) {
		t.Errorf("%+v", reply)
	}
	if got := w.Grants(0); len(got) != 2 || got[0].Count != 2 || got[1].Count != 1 {
		t.Errorf("Grants: %+v", got)
	}
}

// TestCountsOnce: no count of a nonce is used twice, whatever becomes of a header.
func TestCountsOnce(t *testing.T) {
	w := worldOf(t, "Digest realm=r, nonce=n, qop=auth")
	seen := map[string]bool{}
	nonces := 1
	for i := range 300 {
		switch {
		case i%7 == 3:
			nonces++
			wantDo(t, w, opOf(api.Refused, told(fmt.Sprintf("Digest realm=r, nonce=n%d, qop=auth, stale=true", nonces))), answer(api.Done))
		case i%11 == 5:
			w = w.Copy()
		}
		head := w.Do(opOf(api.Attach, nonce("c"))).Head
		_, told, _ := strings.Cut(head, " nonce=")
		used, _, _ := strings.Cut(told, ", ")
		_, told, _ = strings.Cut(told, " nc=")
		count, _, _ := strings.Cut(told, ", ")
		if used == "" || count == "" || seen[used+count] {
			t.Fatalf("%d: %q", i, head)
		}
		seen[used+count] = true
	}
}

// TestRefusedOdd: a Text that can't be parsed is Odd, and nothing is changed.
func TestRefusedOdd(t *testing.T) {
	many := strings.TrimSuffix(strings.Repeat("Basic realm=r, ", api.MaxAsks+1), ", ")
	params := "Basic realm=r"
	for i := range api.MaxParams {
		params += fmt.Sprintf(", p%d=v", i)
	}
	for _, text := range []string{"Basic realm x", "Basic realm=r, realm=s", "=", `Basic realm="r`, "Basic realm=r x", many, params, "Basic realm=r, Basic \xff"} {
		for _, c := range []change{proxy, in(0), in(1), to(originA)} {
			wantSame(t, full(), opOf(api.Refused, c, told(text)), answer(api.Odd))
			wantSame(t, New(), opOf(api.Refused, c, told(text)), answer(api.Odd))
		}
	}
}

// TestRefusedNone: nothing that is known, so that nothing is changed.
func TestRefusedNone(t *testing.T) {
	for _, text := range []string{"", " ,\t,", "Negotiate", "Negotiate abc==", "Basic", "Basic abc=", "Basic charset=utf-8", "Digest realm=r", "Digest nonce=n", "Digest realm=r, nonce=n, algorithm=x", "Digest realm=r, nonce=n, qop=x", "Bearer realm=r, Digest realm=r"} {
		for _, c := range []change{proxy, in(0), in(1), to(originA)} {
			wantSame(t, full(), opOf(api.Refused, c, told(text)), answer(api.None))
			wantSame(t, New(), opOf(api.Refused, c, told(text)), answer(api.None))
		}
	}
}

// TestRefusedPrompt: what is asked for is waited for, with its origin, Proxy and Path; the best of it.
func TestRefusedPrompt(t *testing.T) {
	basicAsk := api.Ask{Scheme: api.Basic, Realm: "r"}
	digest := api.Ask{Scheme: api.DigestSHA, Realm: "s t", Nonce: "n", Opaque: "o", Sess: true, Qop: "auth-int", Stale: true, Domain: []string{"/x", "/"}}
	text := `Digest nonce=n, realm="s t", algorithm=SHA-256-sess, opaque=o, qop="auth-int", stale=TRUE, domain="/x x /y/.."`
	for _, x := range []struct {
		text string
		a    api.Ask
	}{
		{"Basic realm=r", basicAsk},
		{"basic Realm=r, Negotiate", basicAsk},
		{"Basic realm=r, Basic realm=s", basicAsk},
		{"Basic realm=r, Digest realm=q", basicAsk},
		{text, digest},
		{"Basic realm=r, " + text, digest},
		{"Digest realm=q, nonce=p, " + text + ", Basic realm=r", digest},
	} {
		w := New()
		wantDo(t, w, opOf(api.Refused, told(x.text)), answer(api.Prompt))
		one := bank.Wait{Origin: originB, Path: "/a/b", Ask: x.a}
		wantBank(t, w, nil, []bank.Wait{one})
		wantDo(t, w, opOf(api.Refused, told(x.text), proxy, path("/x\xff"), query("q"), from(originB)), answer(api.Prompt))
		two := bank.Wait{Origin: originB, Proxy: true, Path: "/x\xff", Ask: x.a}
		wantBank(t, w, nil, []bank.Wait{one, two})
		// The same origin and Proxy wait once, however often.
		wantDo(t, w, opOf(api.Refused, told(x.text), path("/c")), answer(api.Prompt))
		one.Path = "/c"
		wantBank(t, w, nil, []bank.Wait{two, one})
		wantDo(t, w, opOf(api.Refused, told(x.text), to(originA)), answer(api.Prompt))
		wantBank(t, w, nil, []bank.Wait{two, one, {Origin: originA, Path: "/a/b", Ask: x.a}})
	}
}

// TestRefusedMany: of more than MaxEntries waits the first ones are gone.
func TestRefusedMany(t *testing.T) {
	w := New()
	for i := range 3 * api.MaxEntries {
		origin := api.Origin{Host: fmt.Sprint("h", i), Port: 80}
		wantDo(t, w, opOf(api.Refused, to(origin), told("Basic realm=r")), answer(api.Prompt))
		got := w.Waits(0)
		if len(got) != min(i+1, 8) || got[len(got)-1].Origin != origin || got[0].Origin.Host != fmt.Sprint("h", max(0, i-7)) {
			t.Fatalf("%d: %+v", i, got)
		}
	}
}

// TestRefusedStale: a grant is renewed: this Ask, Count 0; Creds and Paths stay, and it is the last one.
func TestRefusedStale(t *testing.T) {
	for _, also := range [][]change{nil, {proxy}, {to(originA)}} {
		for _, algorithm := range []string{"MD5", "SHA-256"} {
			w := New()
			granted(t, w, `Digest realm=r, nonce=n, domain="/a/ /c", algorithm=`+algorithm, also...)
			granted(t, w, "Basic realm=s", also...)
			granted(t, w, "Digest realm=t, nonce=n", also...)
			granted(t, w, "Digest realm=r, nonce=n", to(originC))
			wantDo(t, w, opOf(api.Refused, append(slices.Clone(also), told("Basic realm=x"))...), answer(api.Prompt))
			w.Do(opOf(api.Attach, append(slices.Clone(also), path("/a/b"))...))
			before, waits := w.Grants(0), w.Waits(0)
			i := slices.IndexFunc(before, func(g api.Grant) bool { return g.Ask.Realm == "r" && g.Origin != originC })
			g := before[i]
			text := `Digest realm=r, nonce=m, domain="/x /y/z", qop=auth, opaque=o, stale=true, algorithm=` + algorithm + "-sess"
			wantDo(t, w, opOf(api.Refused, append(slices.Clone(also), path("/q/r"), by("x", "y"), told("Basic realm=s, "+text))...), answer(api.Done))
			g.Ask = api.Ask{Scheme: g.Ask.Scheme, Realm: "r", Nonce: "m", Opaque: "o", Sess: true, Qop: "auth", Stale: true, Domain: []string{"/x", "/y/z"}}
			g.Count = 0
			wantBank(t, w, append(slices.Delete(slices.Clone(before), i, i+1), g), waits)
			// It is counted from 1 on again.
			if reply := w.Do(opOf(api.Attach, append(slices.Clone(also), path("/c"))...)); !strings.Contains(reply.Head, `nonce="m"`) || !strings.Contains(reply.Head, " nc=00000001,") {
				t.Errorf("behind it: %+v", reply)
			}
			// The same nonce once more is none that renews.
			wantDo(t, w, opOf(api.Refused, append(slices.Clone(also), told(text))...), answer(api.Prompt))
		}
	}
}

// TestRefusedNotStale: each condition missing alone: the grant of that realm is dropped, if there is one, and what is asked for is waited for.
func TestRefusedNotStale(t *testing.T) {
	const right = "Digest realm=r, nonce=m, stale=true"
	for _, x := range []struct {
		name, had, text string
		has, asks       []change
		dropped         bool
	}{
		{"another realm", "Digest realm=s, nonce=n", right, nil, nil, false},
		{"a realm in great letters", "Digest realm=R, nonce=n", right, nil, nil, false},
		{"another origin", "Digest realm=r, nonce=n", right, []change{to(originC)}, nil, false},
		{"not secure", "Digest realm=r, nonce=n", right, []change{to(originA)}, []change{to(originA1)}, false},
		{"a proxy's", "Digest realm=r, nonce=n", right, []change{proxy}, nil, false},
		{"asked by a proxy", "Digest realm=r, nonce=n", right, nil, []change{proxy}, false},
		{"not stale", "Digest realm=r, nonce=n", "Digest realm=r, nonce=m", nil, nil, true},
		{"told not stale", "Digest realm=r, nonce=n", "Digest realm=r, nonce=m, stale=false", nil, nil, true},
		{"not stale, of a proxy", "Digest realm=r, nonce=n", "Digest realm=r, nonce=m", []change{proxy}, []change{proxy}, true},
		{"a stronger scheme", "Digest realm=r, nonce=n", right + ", algorithm=SHA-256", nil, nil, true},
		{"a weaker scheme", "Digest realm=r, nonce=n, algorithm=SHA-256", right, nil, nil, true},
		{"a weaker scheme of a proxy", "Digest realm=r, nonce=n, algorithm=SHA-256", right, []change{proxy}, []change{proxy}, true},
		{"Basic ahead", "Basic realm=r", right, nil, nil, true},
		{"Basic now", "Digest realm=r, nonce=n", "Basic realm=r, stale=true, nonce=m", nil, nil, true},
		{"Basic both", "Basic realm=r", "Basic realm=r, stale=true, nonce=m", nil, nil, true},
		{"the same nonce", "Digest realm=r, nonce=m", right, nil, nil, true},
		{"the same nonce, all else another", "Digest realm=r, nonce=m", right + ", opaque=o, qop=auth", nil, nil, true},
		{"the same nonce of a proxy", "Digest realm=r, nonce=m", right, []change{proxy}, []change{proxy}, true},
	} {
		w := New()
		granted(t, w, "Digest realm=beside, nonce=n", x.asks...)
		granted(t, w, x.had, x.has...)
		granted(t, w, "Digest realm=behind, nonce=n", x.asks...)
		granted(t, w, x.had, in(1))
		elsewhere := tellPart(w, 1)
		want := w.Grants(0)
		if x.dropped {
			want = slices.Delete(want, 1, 2)
		}
		asked := New()
		asked.Do(opOf(api.Refused, append(slices.Clone(x.asks), told(x.text))...))
		wantDo(t, w, opOf(api.Refused, append(slices.Clone(x.asks), told(x.text))...), answer(api.Prompt))
		same(t, x.name, tellBank(w, 0), each(tellGrant, want)+tellBank(asked, 0))
		same(t, x.name+": elsewhere", tellPart(w, 1), elsewhere)
	}
	// One of another partition is none.
	w := New()
	granted(t, w, "Digest realm=r, nonce=n", in(1))
	elsewhere := tellPart(w, 1)
	wantDo(t, w, opOf(api.Refused, told(right)), answer(api.Prompt))
	same(t, "elsewhere", tellPart(w, 1), elsewhere)
	wantDo(t, w, opOf(api.Refused, in(1), told(right)), answer(api.Done))
}

// TestAnsweredNone: nothing that was asked for.
func TestAnsweredNone(t *testing.T) {
	wantSame(t, New(), opOf(api.Answered, by("u", "p")), answer(api.None))
	w := New()
	wantDo(t, w, opOf(api.Refused, told("Basic realm=r")), answer(api.Prompt))
	for _, c := range []change{proxy, to(originA), to(api.Origin{Secure: true, Host: "b.test", Port: 444}), in(1)} {
		wantSame(t, w, opOf(api.Answered, c), answer(api.None))
	}
	wantDo(t, w, opOf(api.Answered, by("u", "p")), answer(api.Done))
	wantBank(t, w, []api.Grant{basic("r", 0)}, nil)
	// It is taken once.
	wantSame(t, w, opOf(api.Answered, by("v", "q")), answer(api.None))
}

// TestAnswered: a grant of what was asked for, where that was, by what is told now.
func TestAnswered(t *testing.T) {
	digest := "Digest realm=r, nonce=n"
	for _, x := range []struct {
		text, path string
		proxy      bool
		paths      []string
	}{
		{"Basic realm=r", "/a/b", false, []string{"/a/"}},
		{"Basic realm=r", "/a/b/", false, []string{"/a/b/"}},
		{"Basic realm=r", "/", false, []string{"/"}},
		{"Basic realm=r", "/x", false, []string{"/"}},
		{"Basic realm=r", "/a/b", true, []string{"/"}},
		{digest, "/a/b", false, []string{"/"}},
		{digest + ", domain=\"http://x/\"", "/a/b", false, []string{"/"}},
		{digest + `, domain="/c /d/../e/"`, "/a/b", false, []string{"/c", "/e/"}},
		{digest + `, domain="/c"`, "/a/b", true, []string{"/"}},
		{digest + ", stale=true, qop=auth, algorithm=SHA-256", "/a/b", false, []string{"/"}},
	} {
		w := New()
		way := []change{path(x.path), func(o *api.Op) { o.Proxy = x.proxy }}
		wantDo(t, w, opOf(api.Refused, append(slices.Clone(way), told(x.text))...), answer(api.Prompt))
		wait := w.Waits(0)[0]
		other := func(o *api.Op) { o.Proxy = !x.proxy }
		wantDo(t, w, opOf(api.Refused, other, told("Basic realm=z")), answer(api.Prompt))
		rest := w.Waits(0)[1:]
		// Where it is answered doesn't matter, nor what else is told then.
		wantDo(t, w, opOf(api.Answered, append(slices.Clone(way), path("/else/where"), query("q"), from(originC), told("Basic realm=x"), by("a:b", "\n"), nonce("c"), cert(3))...), answer(api.Done))
		g := api.Grant{Origin: originB, Proxy: x.proxy, Creds: api.Creds{User: "a:b", Pass: "\n"}, Ask: wait.Ask, Paths: x.paths}
		wantBank(t, w, []api.Grant{g}, rest)
	}
}

// TestAnsweredAgain: a grant of the same realm is replaced; more than MaxEntries: the first ones are gone.
func TestAnsweredAgain(t *testing.T) {
	w := worldOf(t, "Basic realm=r", "Basic realm=s")
	wantDo(t, w, opOf(api.Refused, told("Basic realm=x")), answer(api.Prompt))
	wantDo(t, w, opOf(api.Refused, told("Basic realm=r")), answer(api.Prompt))
	wantBank(t, w, []api.Grant{basic("s", 0)}, []bank.Wait{{Origin: originB, Path: "/a/b", Ask: api.Ask{Scheme: api.Basic, Realm: "r"}}})
	wantDo(t, w, opOf(api.Answered, by("u", "p")), answer(api.Done))
	wantBank(t, w, []api.Grant{basic("s", 0), basic("r", 0)}, nil)
	// A wait may outlive the grant that is made meanwhile: then that is replaced.
	w = New()
	wantDo(t, w, opOf(api.Refused, told("Basic realm=r")), answer(api.Prompt))
	w.parts[0].bank.Put(basic("r", 7))
	wantDo(t, w, opOf(api.Answered, by("v", "q")), answer(api.Done))
	g := basic("r", 0)
	g.Creds = api.Creds{User: "v", Pass: "q"}
	wantBank(t, w, []api.Grant{g}, nil)
	w = New()
	var want []api.Grant
	for i := range 20 {
		realm := fmt.Sprint("r", i)
		granted(t, w, "Basic realm="+realm)
		want = append(want, basic(realm, 0))
		wantBank(t, w, want[max(0, len(want)-8):], nil)
	}
}

// put is a request that must be asked for first, to Check and Allowed alike.
func put(what int, changes ...change) api.Op {
	return opOf(what, append([]change{method("PUT")}, changes...)...)
}

// passOf is what allows put's method, until a time.
func passOf(until int) api.Pass {
	return api.Pass{From: originA, URL: api.URL{Origin: originB, Path: "/a/b"}, Method: "PUT", Until: until}
}

const allowPut = "Access-Control-Allow-Origin: *\nAccess-Control-Allow-Methods: PUT"

// TestCheck: with Passes and without.
func TestCheck(t *testing.T) {
	for _, w := range []*World{New(), full()} {
		wantSame(t, w, opOf(api.Check, to(originC)), answer(api.No))
		wantSame(t, w, opOf(api.Check, to(originC), method("post")), answer(api.No))
		wantSame(t, w, opOf(api.Check, to(originC), method("put")), answer(api.Yes))
		wantSame(t, w, opOf(api.Check, to(originC), heads("X-A")), answer(api.Yes))
		wantSame(t, w, opOf(api.Check, to(originA), method("put"), heads("X-A")), answer(api.No))
		wantSame(t, w, opOf(api.Check, to(originA1), method("put")), answer(api.Yes))
	}
	w := New()
	wantDo(t, w, put(api.Allowed, told(allowPut+"\nAccess-Control-Allow-Headers: x-a")), answer(api.Done))
	wantSame(t, w, put(api.Check), answer(api.No))
	wantSame(t, w, put(api.Check, method("Put"), heads("X-A", "x-a")), answer(api.No))
	wantSame(t, w, put(api.Check, everything, proxy, later(99), cert(-1), told("a b"), in(0)), answer(api.No))
	for _, c := range []change{method("PATCH"), heads("X-B"), heads("X-A", "Authorization"), with, from(originC), from(originA1), to(originC), path("/a/"), path("/"), query("q"), in(1), in(3)} {
		wantSame(t, w, put(api.Check, c), answer(api.Yes))
	}
}

// TestCheckTime: at the time, one before it and one behind it.
func TestCheckTime(t *testing.T) {
	for _, start := range []int{0, 1, 1000, api.MaxTime - 30} {
		for age, text := range map[int]string{api.NoAge: "", 1: "\nAccess-Control-Max-Age: 1", 20: "\nAccess-Control-Max-Age: 20"} {
			w := New()
			wantDo(t, w, opOf(api.Tick, later(start)), answer(api.Done))
			wantDo(t, w, put(api.Allowed, told(allowPut+text)), answer(api.Done))
			wantBook(t, w, passOf(start+age))
			for now := range age + 3 {
				want := api.No
				if now >= age {
					want = api.Yes
				}
				wantSame(t, w, put(api.Check), answer(want))
				wantDo(t, w, opOf(api.Tick, later(1), in(2)), answer(api.Done))
			}
		}
	}
}

// TestAllowedOdd: a Text that can't be read is Odd, and nothing is changed, even if what can be read allows it.
func TestAllowedOdd(t *testing.T) {
	for _, text := range []string{"x", allowPut + "\nx", "a b: c", ":", allowPut + strings.Repeat("\na:b", api.MaxList)} {
		wantSame(t, New(), put(api.Allowed, told(text)), answer(api.Odd))
		w := New()
		wantDo(t, w, put(api.Allowed, told(allowPut)), answer(api.Done))
		wantSame(t, w, put(api.Allowed, told(text)), answer(api.Odd))
		wantBook(t, w, passOf(api.NoAge))
	}
}

// TestAllowedNone: what doesn't allow the request lets all go that was allowed from there to there, and nothing else.
func TestAllowedNone(t *testing.T) {
	for _, text := range []string{
		"",
		"other: x",
		"Access-Control-Allow-Origin: https://c.test\nAccess-Control-Allow-Methods: PUT",
		"Access-Control-Allow-Origin: *",
		"Access-Control-Allow-Origin: *\nAccess-Control-Allow-Methods: PATCH",
		"Access-Control-Allow-Origin: *\nAccess-Control-Allow-Methods: put",
		allowPut + "\nAccess-Control-Allow-Methods: a b",
		allowPut + "\nAccess-Control-Allow-Headers: a b",
		allowPut + "\nAccess-Control-Allow-Origin: *",
	} {
		o := put(api.Allowed, told(text), heads("X-A"))
		wantSame(t, New(), o, answer(api.None))
		w := New()
		others := []change{from(originC), to(originC), path("/a"), query("q")}
		var want []api.Pass
		for _, c := range others {
			wantDo(t, w, put(api.Allowed, told(allowPut), c), answer(api.Done))
			wantDo(t, w, put(api.Allowed, told(allowPut)), answer(api.Done))
			wantDo(t, w, put(api.Allowed, told(allowPut+"\nAccess-Control-Allow-Credentials: true\nAccess-Control-Allow-Headers: x-b"), c), answer(api.Done))
		}
		wantDo(t, w, opOf(api.Allowed, told("Access-Control-Allow-Origin: https://a.test\nAccess-Control-Allow-Credentials: true\nAccess-Control-Allow-Methods: PATCH"), with), answer(api.Done))
		for _, p := range w.Passes(0) {
			if p.From != originA || p.URL != (api.URL{Origin: originB, Path: "/a/b"}) {
				want = append(want, p)
			}
		}
		if len(want) != 8 || len(w.Passes(0)) != 10 {
			t.Fatalf("Passes: %s", tellBook(w, 0))
		}
		wantDo(t, w, o, answer(api.None))
		wantBook(t, w, want...)
		wantSame(t, w, o, answer(api.None))
		// Of another partition nothing goes.
		w = New()
		wantDo(t, w, put(api.Allowed, told(allowPut)), answer(api.Done))
		o.Req.Part = 1
		wantSame(t, w, o, answer(api.None))
	}
}

// TestAllowed: the Passes that the answer tells, from now on.
func TestAllowed(t *testing.T) {
	w := New()
	wantDo(t, w, opOf(api.Tick, later(100)), answer(api.Done))
	wantDo(t, w, put(api.Allowed, told(allowPut+", patch\r\nAccess-Control-Allow-Headers: X-A, x-a, *\r\nAccess-Control-Max-Age: 9999")), answer(api.Done))
	patch, head, any := passOf(700), passOf(700), passOf(700)
	patch.Method, head.Method, any.Method = "patch", "", ""
	head.Head, any.Head = "x-a", "*"
	wantBook(t, w, passOf(700), patch, head, any)
	// One again is the last one; one without an age is over soon.
	wantDo(t, w, put(api.Allowed, told(allowPut)), answer(api.Done))
	wantBook(t, w, patch, head, any, passOf(105))
	// With credentials it is another one.
	wantDo(t, w, put(api.Allowed, with, told("Access-Control-Allow-Origin: https://a.test\nAccess-Control-Allow-Credentials: true\nAccess-Control-Allow-Methods: PUT")), answer(api.Done))
	creds := passOf(105)
	creds.With = true
	wantBook(t, w, patch, head, any, passOf(105), creds)
	// Those that are over go when something is put, not ahead of it.
	wantDo(t, w, opOf(api.Tick, later(5)), answer(api.Done))
	wantBook(t, w, patch, head, any, passOf(105), creds)
	wantDo(t, w, put(api.Allowed, method("patch"), told("Access-Control-Allow-Origin: *\nAccess-Control-Max-Age: 0")), answer(api.Done))
	wantBook(t, w, head, any)
	// A request that need not be asked for is answered likewise.
	wantDo(t, w, opOf(api.Allowed, from(originB), told("Access-Control-Allow-Origin: https://b.test")), answer(api.Done))
	get := passOf(110)
	get.From, get.Method = originB, "GET"
	wantBook(t, w, head, any, get)
}

// TestAllowedMany: of more than 4 * MaxEntries the first ones are gone.
func TestAllowedMany(t *testing.T) {
	w := New()
	var want []api.Pass
	for i := range 50 {
		p := passOf(api.NoAge)
		p.URL.Path = fmt.Sprint("/", i)
		want = append(want, p)
		wantDo(t, w, put(api.Allowed, path(p.URL.Path), told(allowPut)), answer(api.Done))
		wantBook(t, w, want[max(0, len(want)-32):]...)
	}
}

// TestPick: the origin's Cert, whatever its number is; none: a user is to be asked.
func TestPick(t *testing.T) {
	w := New()
	wantSame(t, w, opOf(api.Pick, cert(5)), answer(api.Prompt))
	for _, n := range []int{0, 1, 2, 77, math.MaxInt, 0} {
		wantDo(t, w, opOf(api.Choose, cert(n)), answer(api.Done))
		wantSame(t, w, opOf(api.Pick, cert(5), from(originC), path("/"), proxy), api.Reply{What: api.Done, Cert: n})
		wantCerts(t, w, Cert{originB, n})
		for _, c := range []change{to(originA), to(api.Origin{Host: "b.test", Port: 443}), to(api.Origin{Secure: true, Host: "b.test", Port: 444}), in(1), in(3)} {
			wantSame(t, w, opOf(api.Pick, c), answer(api.Prompt))
		}
	}
}

// TestChoose: one of each origin, the last one chosen last; more than MaxEntries: the first ones are gone.
func TestChoose(t *testing.T) {
	w := New()
	wantDo(t, w, opOf(api.Choose, cert(3)), answer(api.Done))
	wantDo(t, w, opOf(api.Choose, cert(3), to(originA)), answer(api.Done))
	wantDo(t, w, opOf(api.Choose, cert(4), to(originA1)), answer(api.Done))
	wantCerts(t, w, Cert{originB, 3}, Cert{originA, 3}, Cert{originA1, 4})
	wantDo(t, w, opOf(api.Choose, cert(0), to(originA)), answer(api.Done))
	wantCerts(t, w, Cert{originB, 3}, Cert{originA1, 4}, Cert{originA, 0})
	wantDo(t, w, opOf(api.Choose, cert(0), to(originA)), answer(api.Done))
	wantCerts(t, w, Cert{originB, 3}, Cert{originA1, 4}, Cert{originA, 0})
	for _, n := range []int{-1, -2, math.MinInt} {
		wantSame(t, w, opOf(api.Choose, cert(n)), answer(api.Odd))
		wantSame(t, w, opOf(api.Choose, cert(n), to(originC)), answer(api.Odd))
		wantSame(t, New(), opOf(api.Choose, cert(n)), answer(api.Odd))
	}
	w = New()
	var want []Cert
	for i := range 30 {
		c := Cert{api.Origin{Host: fmt.Sprint("h", i), Port: 80}, i}
		want = append(want, c)
		wantDo(t, w, opOf(api.Choose, cert(i), to(c.Origin)), answer(api.Done))
		wantCerts(t, w, want[max(0, len(want)-8):]...)
	}
	// One again in a full row: none has to go.
	wantDo(t, w, opOf(api.Choose, cert(99), to(want[25].Origin)), answer(api.Done))
	wantCerts(t, w, append(slices.Delete(slices.Clone(want[22:]), 3, 4), Cert{want[25].Origin, 99})...)
}

// keep are the lines of a text but those of which one is true.
func keep(text string, gone func(string) bool) (out string) {
	for line := range strings.Lines(text) {
		if !gone(line) {
			out += line
		}
	}
	return out
}

// hasOrigin says whether a line begins as one of a kind does, with that origin, or goes there.
func hasOrigin(line string, origin api.Origin, kinds ...string) bool {
	for _, kind := range kinds {
		if strings.HasPrefix(line, kind+" "+tellOrigin(origin)) || kind == "pass" && strings.Contains(line, " > "+tellOrigin(origin)) {
			return true
		}
	}
	return false
}

// wantGone: an operation in a world like full is Done, and just these lines of its partition are gone.
func wantGone(t *testing.T, o api.Op, gone func(line string) bool) {
	t.Helper()
	w, others := full(), full()
	left := keep(tellPart(w, o.Req.Part), gone)
	wantDo(t, w, o, answer(api.Done))
	same(t, fmt.Sprintf("behind %+v", o), tellPart(w, o.Req.Part), left)
	for _, other := range partsBut(o.Req.Part) {
		same(t, "another partition", tellPart(w, other), tellPart(others, other))
	}
	if w.Now() != others.Now() {
		t.Errorf("behind %+v: the time is %d", o, w.Now())
	}
	wantSame(t, w, o, answer(api.Done))
}

// TestLogout: an origin's grants and waits are gone, a proxy's, too; all else stays.
func TestLogout(t *testing.T) {
	for part := range 4 {
		for _, origin := range []api.Origin{originA, originB, originC, originA1, {Host: "none", Port: 80}} {
			for _, also := range []change{proxy, everything, path("/none"), from(origin)} {
				wantGone(t, opOf(api.Logout, in(part), to(origin), also), func(line string) bool {
					return hasOrigin(line, origin, "grant", "wait")
				})
			}
		}
	}
}

// TestClear: all of an origin is gone, or all of the partition; the time, and the other partitions, stay.
func TestClear(t *testing.T) {
	for part := range 4 {
		for _, origin := range []api.Origin{originA, originB, originC, originA1, {Host: "none", Port: 80}} {
			for _, also := range []change{proxy, path("/none"), from(origin)} {
				o := opOf(api.Clear, in(part), to(origin), also)
				wantGone(t, o, func(line string) bool { return hasOrigin(line, origin, "grant", "wait", "pass", "cert") })
				everything(&o)
				wantGone(t, o, func(string) bool { return true })
			}
		}
	}
}

// TestClearedIsGone: of what was cleared nothing is sent, nor let through.
func TestClearedIsGone(t *testing.T) {
	for _, clear := range []api.Op{opOf(api.Clear), opOf(api.Clear, everything), opOf(api.Clear, everything, to(originC))} {
		w := New()
		granted(t, w, "Basic realm=r")
		granted(t, w, "Digest realm=s, nonce=n", proxy)
		wantDo(t, w, opOf(api.Refused, told("Basic realm=t")), answer(api.Prompt))
		wantDo(t, w, put(api.Allowed, told(allowPut)), answer(api.Done))
		wantDo(t, w, put(api.Allowed, from(originB), to(originC), told(allowPut)), answer(api.Done))
		wantDo(t, w, opOf(api.Choose, cert(3)), answer(api.Done))
		wantDo(t, w, clear, answer(api.Done))
		wantSame(t, w, opOf(api.Attach), answer(api.None))
		wantSame(t, w, opOf(api.Attach, proxy), answer(api.None))
		wantSame(t, w, opOf(api.Answered), answer(api.None))
		wantSame(t, w, put(api.Check), answer(api.Yes))
		wantSame(t, w, put(api.Check, from(originB), to(originC)), answer(api.Yes))
		wantSame(t, w, opOf(api.Pick), answer(api.Prompt))
		same(t, "behind Clear", tell(w), tell(New()))
	}
}

// TestTick: the time goes on, in all partitions, up to MaxTime.
func TestTick(t *testing.T) {
	w := New()
	now := 0
	for i, n := range []int{0, 1, 0, 7, 1 << 20, 1 << 39, 5} {
		now += n
		wantDo(t, w, opOf(api.Tick, in(i%4), later(n)), answer(api.Done))
		same(t, "Tick", tell(w), tell(&ruleWorld{now: now}))
		for _, below := range []int{-1, -2, math.MinInt, -now, api.MaxTime - now + 1, api.MaxTime + 1, math.MaxInt, math.MaxInt - now} {
			if below != 0 {
				wantSame(t, w, opOf(api.Tick, later(below)), answer(api.Odd))
			}
		}
	}
	wantDo(t, w, opOf(api.Tick, later(api.MaxTime-now)), answer(api.Done))
	if w.Now() != 1<<40 {
		t.Errorf("Now() = %d", w.Now())
	}
	wantSame(t, w, opOf(api.Tick), answer(api.Done))
	wantSame(t, w, opOf(api.Tick, later(1)), answer(api.Odd))
	wantDo(t, New(), opOf(api.Tick, later(api.MaxTime)), answer(api.Done))
	wantSame(t, New(), opOf(api.Tick, later(api.MaxTime+1)), answer(api.Odd))
	// What is in the partitions stays.
	w = full()
	before := tell(w)
	wantDo(t, w, opOf(api.Tick, later(1000)), answer(api.Done))
	same(t, "Tick", tell(w), strings.Replace(before, fmt.Sprintf("now %d\n", full().Now()), fmt.Sprintf("now %d\n", full().Now()+1000), 1))
}

// TestReplyFields: Head is told by Attach alone, Cert by Pick alone, and just where they are Done.
func TestReplyFields(t *testing.T) {
	for _, w := range []*World{New(), full(), another()} {
		for part := range 4 {
			for what := api.Attach; what <= api.Tick; what++ {
				for _, text := range []string{"", "x", "Basic realm=r", "Digest realm=s, nonce=m, stale=true", allowAny} {
					for _, origin := range []api.Origin{originA, originB, originC} {
						o := opOf(what, in(part), told(text), cert(8), to(origin), nonce("c"), by("u", "p"))
						reply := w.Copy().Do(o)
						isDone := reply.What == api.Done
						if (reply.Head != "") != (isDone && what == api.Attach) || (reply.Cert != 0) != (isDone && what == api.Pick) {
							t.Errorf("Do(%+v) = %+v", o, reply)
						}
					}
				}
			}
		}
	}
}

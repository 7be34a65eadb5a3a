package bank

import (
	"fmt"
	"math"
	"slices"
	"strings"
	"testing"

	"gatepost/api"
)

// Origins: b differs from a in one field each.
var (
	originA  = api.Origin{Secure: true, Host: "a.test", Port: 443}
	originB  = api.Origin{Secure: true, Host: "b.test", Port: 443}
	originA1 = api.Origin{Secure: false, Host: "a.test", Port: 443}
	originA2 = api.Origin{Secure: true, Host: "a.test", Port: 444}
)

func others() []api.Origin { return []api.Origin{originB, originA1, originA2, {}} }

// grant is one of a realm, for some paths; realms tell grants apart.
func grant(o api.Origin, proxy bool, realm string, paths ...string) api.Grant {
	return api.Grant{Origin: o, Proxy: proxy, Creds: api.Creds{User: "u-" + realm, Pass: "p-" + realm}, Ask: ask(realm), Paths: paths}
}

func ask(realm string) api.Ask {
	return api.Ask{Scheme: api.DigestSHA, Realm: realm, Nonce: "n-" + realm, Opaque: "o-" + realm, Sess: true, Qop: "auth", Stale: true, Domain: []string{"/d-" + realm, "/e"}}
}

// plainGrant is one of origin a, of none that is a proxy, for all paths.
func plainGrant(realm string) api.Grant { return grant(originA, false, realm, "/") }

func counted(g api.Grant, n int) api.Grant {
	g.Count = n
	return g
}

func wait(o api.Origin, proxy bool, path string) Wait {
	return Wait{Origin: o, Proxy: proxy, Path: path, Ask: ask("of " + path)}
}

// bankOf is a bank into which these were put.
func bankOf(l ...api.Grant) *Bank {
	b := &Bank{}
	for _, g := range l {
		b.Put(g)
	}
	return b
}

func askedOf(l ...Wait) *Bank {
	b := &Bank{}
	for _, w := range l {
		b.Asked(w)
	}
	return b
}

func realms(l []api.Grant) (out string) {
	for _, g := range l {
		out += g.Ask.Realm
	}
	return out
}

// 7.1

// TestZero: nothing is in it, and each call may be the first one.
func TestZero(t *testing.T) {
	wantGrants(t, &Bank{})
	wantWaits(t, &Bank{})
	wantGrants(t, (&Bank{}).Copy())
	wantWaits(t, (&Bank{}).Copy())
	for _, o := range append(others(), originA) {
		for _, proxy := range []bool{false, true} {
			wantFind(t, &Bank{}, o, proxy, "/")
			wantFind(t, &Bank{}, o, proxy, "")
			wantUse(t, &Bank{}, o, proxy, "/", api.Grant{}, api.ErrNone)
			wantGet(t, &Bank{}, o, proxy, "")
			wantTake(t, &Bank{}, o, proxy)
			if (&Bank{}).Drop(o, proxy, "") {
				t.Error("Drop: there was one in nothing")
			}
		}
		if n := (&Bank{}).Sweep(o); n != 0 {
			t.Errorf("Sweep = %d in nothing", n)
		}
	}
	var b Bank
	b.Put(plainGrant("r"))
	wantGrants(t, &b, plainGrant("r"))
	wantWaits(t, &b)
	var c Bank
	c.Asked(wait(originA, false, "/x"))
	wantWaits(t, &c, wait(originA, false, "/x"))
	wantGrants(t, &c)
}

// TestOrder: grants and waits stand in the order in which they came, whatever they are.
func TestOrder(t *testing.T) {
	var gs []api.Grant
	var ws []Wait
	b := &Bank{}
	for i, realm := range []string{"z", "", "m", "a", "\xff", "Z", "é", "b"} {
		wantGrants(t, b, gs...)
		wantWaits(t, b, ws...)
		g := grant(api.Origin{Host: realm, Port: 9 - i}, i%3 == 0, realm, strings.Split("/,/a,"+realm, ",")[:i%4%3]...)
		w := wait(api.Origin{Secure: i%2 == 0, Host: realm}, i%3 == 1, realm)
		gs, ws = append(gs, g), append(ws, w)
		b.Put(g)
		b.Asked(w)
	}
	wantGrants(t, b, gs...)
	wantWaits(t, b, ws...)
	// Asking for them changes nothing.
	wantGrants(t, b, gs...)
	wantWaits(t, b, ws...)
}

// change is a call that changes a bank in which full was.
type change struct {
	name string
	do   func(*Bank)
}

func full() *Bank {
	b := bankOf(grant(originA, false, "r", "/", "/a"), grant(originA, true, "s", "/"), counted(grant(originB, false, "t", "/"), api.MaxCount))
	b.Asked(wait(originA, false, "/x"))
	b.Asked(wait(originA, true, "/y"))
	b.Asked(wait(originB, false, "/z"))
	return b
}

func changes() []change {
	return []change{
		{"Use", func(b *Bank) { b.Use(originA, false, "/a") }},
		{"Use of none", func(b *Bank) { b.Use(originA2, false, "/a") }},
		{"Use of a full one", func(b *Bank) { b.Use(originB, false, "/a") }},
		{"Put", func(b *Bank) { b.Put(plainGrant("new")) }},
		{"Put again", func(b *Bank) { b.Put(counted(plainGrant("r"), 7)) }},
		{"Put of many", func(b *Bank) {
			for i := range 9 {
				b.Put(plainGrant(fmt.Sprint(i)))
			}
		}},
		{"Drop", func(b *Bank) { b.Drop(originA, false, "r") }},
		{"Asked", func(b *Bank) { b.Asked(wait(originA2, false, "/new")) }},
		{"Asked again", func(b *Bank) { b.Asked(wait(originA, false, "/new")) }},
		{"Take", func(b *Bank) { b.Take(originA, false) }},
		{"Sweep", func(b *Bank) { b.Sweep(originA) }},
		{"Sweep of all", func(b *Bank) { b.Sweep(originA); b.Sweep(originB) }},
		{"Grants written over", func(b *Bank) { spoilGrants(b.Grants()) }},
		{"Waits written over", func(b *Bank) { spoilWaits(b.Waits()) }},
		{"Find written over", func(b *Bank) { spoilGrant(b.Find(originA, false, "/a")) }},
		{"Get written over", func(b *Bank) { spoilGrant(b.Get(originA, true, "s")) }},
		{"Use written over", func(b *Bank) { g, _ := b.Use(originA, false, "/"); spoilGrant(g, true) }},
		{"Take written over", func(b *Bank) { w, _ := b.Take(originA, false); spoilAsk(w.Ask) }},
		{"Copy changed", func(b *Bank) { c := b.Copy(); c.Put(plainGrant("new")); c.Sweep(originA) }},
	}
}

func spoilTexts(l []string) {
	l = l[:cap(l)]
	for i := range l {
		l[i] = "spoilt"
	}
}

func spoilAsk(a api.Ask) { spoilTexts(a.Domain) }

func spoilGrant(g api.Grant, _ bool) { spoilTexts(g.Paths); spoilAsk(g.Ask) }

func spoilGrants(l []api.Grant) {
	for _, g := range l {
		spoilGrant(g, true)
	}
	l = l[:cap(l)]
	for i := range l {
		l[i] = api.Grant{Count: -1}
	}
}

func spoilWaits(l []Wait) {
	for _, w := range l {
		spoilAsk(w.Ask)
	}
	l = l[:cap(l)]
	for i := range l {
		l[i] = Wait{Path: "spoilt"}
	}
}

// TestCopy: one that has the same; each call on the one leaves the other as it was.
func TestCopy(t *testing.T) {
	grants, waits := tellGrants(full().Grants()), tellWaits(full().Waits())
	for _, c := range changes() {
		b := full()
		d := b.Copy()
		same(t, "Copy", tellGrants(d.Grants()), grants)
		same(t, "Copy", tellWaits(d.Waits()), waits)
		c.do(b)
		same(t, c.name+" on the first one", tellGrants(d.Grants()), grants)
		same(t, c.name+" on the first one", tellWaits(d.Waits()), waits)
		b = full()
		d = b.Copy()
		c.do(d)
		same(t, c.name+" on the copy", tellGrants(b.Grants()), grants)
		same(t, c.name+" on the copy", tellWaits(b.Waits()), waits)
		// Each two of them, the one here and the other there, are as if each had been alone.
		for _, other := range changes() {
			b, d = full(), nil
			d = b.Copy()
			c.do(b)
			other.do(d)
			alone, second := full(), full()
			c.do(alone)
			other.do(second)
			same(t, c.name+", "+other.name, tellGrants(b.Grants())+tellWaits(b.Waits()), tellGrants(alone.Grants())+tellWaits(alone.Waits()))
			same(t, c.name+", "+other.name, tellGrants(d.Grants())+tellWaits(d.Waits()), tellGrants(second.Grants())+tellWaits(second.Waits()))
		}
	}
}

// TestWrittenOver: what was put in, and what came out, may be written over: the bank has what it had.
func TestWrittenOver(t *testing.T) {
	g, w := grant(originA, false, "r", "/", "/a"), wait(originA, false, "/x")
	b := &Bank{}
	b.Put(g)
	b.Asked(w)
	spoilGrant(g, true)
	spoilAsk(w.Ask)
	wantGrants(t, b, grant(originA, false, "r", "/", "/a"))
	wantWaits(t, b, wait(originA, false, "/x"))
	spoilGrants(b.Grants())
	spoilWaits(b.Waits())
	spoilGrant(b.Find(originA, false, "/"))
	spoilGrant(b.Get(originA, false, "r"))
	wantFind(t, b, originA, false, "/a/b", grant(originA, false, "r", "/", "/a"))
	used, _ := b.Use(originA, false, "/")
	spoilGrant(used, true)
	wantGrants(t, b, counted(grant(originA, false, "r", "/", "/a"), 1))
	wantWaits(t, b, wait(originA, false, "/x"))
	taken, _ := b.Take(originA, false)
	c := askedOf(taken)
	spoilAsk(taken.Ask)
	wantWaits(t, c, wait(originA, false, "/x"))
}

// TestMemory: texts and lists that come out share nothing with what was handed in, with the bank, or with each other.
func TestMemory(t *testing.T) {
	g, w := grant(originA, false, "r", "/", "/a"), wait(originA, false, "/x")
	g.Origin.Host, g.Ask.Qop = strings.Clone("a.test"), strings.Clone("auth")
	in := memory(g, w)
	b := &Bank{}
	b.Put(g)
	b.Asked(w)
	found, _ := b.Find(originA, false, "/")
	got, _ := b.Get(originA, false, "r")
	outs := map[string][]stretch{"Find": memory(found), "Get": memory(got), "Grants": memory(b.Grants()), "Waits": memory(b.Waits()), "Copy": memory(b.Copy())}
	for name, out := range outs {
		apart(t, name+" and the bank", out, memory(b))
		inItself(t, name, out)
	}
	used, _ := b.Use(originA, false, "/")
	apart(t, "Use and the bank", memory(used), memory(b))
	apart(t, "what was handed in and the bank", in, memory(b))
	taken, _ := b.Take(originA, false)
	outs["Use"], outs["Take"] = memory(used), memory(taken)
	apart(t, "Take and the bank", outs["Take"], memory(b))
	for name, out := range outs {
		apart(t, name+" and what was handed in", out, in)
		for other := range outs {
			if other != name {
				apart(t, name+" and "+other, out, outs[other])
			}
		}
	}
	a := ask("r")
	path := strings.Clone("/a/b")
	apart(t, "Space of a domain", memory(Space(a, false, path)), memory(a))
	a.Scheme = api.Basic
	apart(t, "Space of a path", memory(Space(a, false, path)), memory(path))
}

// TestNothingWritten: neither a list that is handed in, nor what stands behind its length.
func TestNothingWritten(t *testing.T) {
	paths, domain := []string{"/", "/a", "behind", "behind"}, []string{"/d", "behind", "behind"}
	g := api.Grant{Origin: originA, Ask: api.Ask{Realm: "r", Domain: domain[:1]}, Paths: paths[:2]}
	w := Wait{Origin: originA, Ask: g.Ask}
	b := &Bank{}
	for range 10 {
		b.Put(g)
		b.Asked(w)
		b.Copy()
		b.Use(originA, false, "/a")
		Space(g.Ask, false, "/")
	}
	b.Take(originA, false)
	b.Drop(originA, false, "r")
	if !slices.Equal(paths, []string{"/", "/a", "behind", "behind"}) || !slices.Equal(domain, []string{"/d", "behind", "behind"}) {
		t.Errorf("written into: %q, %q", paths, domain)
	}
}

// TestNothingKept: of what is gone nothing is kept, behind a row's length neither.
func TestNothingKept(t *testing.T) {
	for _, c := range changes() {
		b := full()
		c.do(b)
		for _, g := range b.grants[len(b.grants):cap(b.grants)] {
			same(t, c.name+": kept", tellGrant(g), tellGrant(api.Grant{}))
		}
		for _, w := range b.waits[len(b.waits):cap(b.waits)] {
			same(t, c.name+": kept", tellWait(w), tellWait(Wait{}))
		}
	}
}

func TestFindPaths(t *testing.T) {
	for _, c := range []struct {
		paths, path string
		is          bool
	}{
		{"", "/", false},
		{"", "", false},
		{"/", "/", true},
		{"/", "/a/b", true},
		{"/", "", false},
		{"/", "a", false},
		{"/a", "/a", true},
		{"/a", "/ab", true},
		{"/a", "/a/", true},
		{"/a", "/", false},
		{"/a", "/b", false},
		{"/a", "/A", false},
		{"/a/", "/a", false},
		{"/a/", "/a/", true},
		{"/a/", "/a/b", true},
		{"/a/", "/b/a/", false},
		{"/a/ /b/", "/b/c", true},
		{"/a/ /b/", "/a/c", true},
		{"/a/ /b/", "/c/", false},
		{"/a/ /b/ /c/", "/b/", true},
		{"/a/ /b/ /c/", "/d", false},
		{"é", "é/", true},
		{"é", "\xc3", false},
		{"\xff", "\xff\x00", true},
	} {
		g := grant(originA, false, "r", strings.Fields(c.paths)...)
		if c.is {
			wantFind(t, bankOf(g), originA, false, c.path, g)
			wantUse(t, bankOf(g), originA, false, c.path, counted(g, 1), api.OK)
		} else {
			wantFind(t, bankOf(g), originA, false, c.path)
			wantUse(t, bankOf(g), originA, false, c.path, api.Grant{}, api.ErrNone)
		}
	}
	// An empty space is one that each path is in, the empty one, too.
	g := grant(originA, false, "r", "")
	wantFind(t, bankOf(g), originA, false, "", g)
	wantFind(t, bankOf(g), originA, false, "x", g)
	wantFind(t, bankOf(plainGrant("s"), g), originA, false, "/", plainGrant("s"))
}

// TestFindFarthest: of several grants; realms tell which one.
func TestFindFarthest(t *testing.T) {
	for _, c := range []struct {
		spaces     []string
		path, want string
	}{
		{[]string{"/", "/a/"}, "/a/b", "1"},
		{[]string{"/a/", "/"}, "/a/b", "0"},
		{[]string{"/a/", "/"}, "/b", "1"},
		{[]string{"/", "/a/", "/a/b"}, "/a/b", "2"},
		{[]string{"/a/b", "/a/", "/"}, "/a/b", "0"},
		{[]string{"/a/b", "/a/", "/"}, "/a/c", "1"},
		{[]string{"/a/b", "/a/", "/"}, "/a", "2"},
		{[]string{"/", "/"}, "/", "1"},
		{[]string{"/", "/", "/"}, "/a", "2"},
		{[]string{"/a/", "/", "/a/", "/"}, "/a/b", "2"},
		{[]string{"/a/", "/", "/a/", "/"}, "/b", "3"},
		{[]string{"/a/", "/a/ /", "/"}, "/a/b", "1"},
		// The longest space that the path is in counts, not the first one, nor the longest of all.
		{[]string{"/a/b /", "/a/"}, "/a/b", "0"},
		{[]string{"/ /a/b", "/a/"}, "/a/b", "0"},
		{[]string{"/ /a/b /", "/a/"}, "/a/b", "0"},
		{[]string{"/a/", "/ /a/b"}, "/a/c", "0"},
		{[]string{"/a/", "/ /longer/than/that"}, "/a/c", "0"},
		{[]string{"/a/", "/a/ /longer/than/that", ""}, "/a/c", "1"},
		{[]string{"/ /a/", "/a/ /"}, "/a/c", "1"},
		{[]string{"/a/ /", "/ /a/ /a/b"}, "/a/c", "1"},
		// Neither how many paths there are counts, nor how many the path is in.
		{[]string{"/ /a /a/ /a/b", "/a/b/"}, "/a/b/c", "1"},
		{[]string{"/a/b/", "/ /a /a/ /a/b"}, "/a/b/c", "0"},
		{[]string{"", "/", ""}, "/", "1"},
	} {
		b := &Bank{}
		for i, spaces := range c.spaces {
			b.Put(grant(originA, false, fmt.Sprint(i), strings.Fields(spaces)...))
		}
		g, ok := b.Find(originA, false, c.path)
		if !ok || g.Ask.Realm != c.want {
			t.Errorf("of %q for %q: %v, %v; want number %s", c.spaces, c.path, g.Ask.Realm, ok, c.want)
		}
		// Use takes the same one, and it is the last one then, so that it is found again.
		used, err := b.Use(originA, false, c.path)
		again, _ := b.Find(originA, false, c.path)
		if err != nil || used.Ask.Realm != c.want || again.Ask.Realm != c.want || used.Count != 1 || again.Count != 1 {
			t.Errorf("of %q for %q used: %v, %v, then %v; want number %s", c.spaces, c.path, used, err, again, c.want)
		}
	}
}

// TestFindWhose: of another origin, of a proxy and of none.
func TestFindWhose(t *testing.T) {
	g, p := grant(originA, false, "r", "/"), grant(originA, true, "r", "/")
	for _, o := range others() {
		wantFind(t, bankOf(g, p), o, false, "/")
		wantFind(t, bankOf(g, p), o, true, "/")
		wantUse(t, bankOf(g, p), o, false, "/", api.Grant{}, api.ErrNone)
		far := grant(o, false, "r", "/a/b/c")
		wantFind(t, bankOf(far, g, far), originA, false, "/a/b/c", g)
		wantFind(t, bankOf(far, g), o, false, "/a/b/c/d", far)
		wantFind(t, bankOf(far, g), o, false, "/a/b")
	}
	wantFind(t, bankOf(g), originA, true, "/")
	wantFind(t, bankOf(p), originA, false, "/")
	wantUse(t, bankOf(g), originA, true, "/", api.Grant{}, api.ErrNone)
	wantUse(t, bankOf(p), originA, false, "/", api.Grant{}, api.ErrNone)
	for _, b := range []*Bank{bankOf(g, p), bankOf(p, g)} {
		wantFind(t, b, originA, false, "/a", g)
		wantFind(t, b, originA, true, "/a", p)
	}
	far := grant(originA, true, "far", "/a/b")
	wantFind(t, bankOf(far, g, far), originA, false, "/a/b", g)
	wantFind(t, bankOf(far, g, p), originA, true, "/a/b", far)
	wantUse(t, bankOf(far, g, p), originA, true, "/a/b", counted(far, 1), api.OK)
	// An origin need not be a right one.
	odd := grant(api.Origin{Host: "A b\xff", Port: -1}, false, "", "x")
	wantFind(t, bankOf(odd), odd.Origin, false, "xy", odd)
}

func TestUseCount(t *testing.T) {
	ahead, behind := grant(originA, false, "ahead", "/"), grant(originA, false, "behind", "/")
	for _, c := range []struct {
		count int
		gone  bool
	}{
		{0, false}, {1, false}, {41, false}, {1 << 31, false}, {1<<32 - 3, false}, {api.MaxCount - 1, false},
		{api.MaxCount, true}, {api.MaxCount + 1, true}, {1 << 40, true}, {math.MaxInt, true},
		{-1, false}, {math.MinInt, false},
	} {
		g := counted(grant(originA, false, "r", "/a"), c.count)
		b := bankOf(ahead, g, behind)
		b.Asked(wait(originA, false, "/a"))
		if c.gone {
			wantUse(t, b, originA, false, "/a", api.Grant{}, api.ErrFull)
			wantGrants(t, b, ahead, behind)
			wantUse(t, b, originA, false, "/a", counted(behind, 1), api.OK)
		} else {
			used := counted(g, c.count+1)
			wantUse(t, b, originA, false, "/a", used, api.OK)
			wantGrants(t, b, ahead, behind, used)
		}
		wantWaits(t, b, wait(originA, false, "/a"))
	}
}

// TestUseUpToFull: of the last counts each one is used once.
func TestUseUpToFull(t *testing.T) {
	g := counted(plainGrant("r"), api.MaxCount-3)
	b := bankOf(g)
	for n := api.MaxCount - 2; n <= api.MaxCount; n++ {
		wantUse(t, b, originA, false, "/", counted(g, n), api.OK)
		wantGrants(t, b, counted(g, n))
	}
	wantUse(t, b, originA, false, "/", api.Grant{}, api.ErrFull)
	wantGrants(t, b)
	wantUse(t, b, originA, false, "/", api.Grant{}, api.ErrNone)
}

// TestUseOrder: each of three, wherever it stands, is the last one then; none: nothing is changed.
func TestUseOrder(t *testing.T) {
	for i, want := range []string{"bca", "acb", "abc"} {
		b := bankOf(grant(originA, false, "a", "/0"), grant(originA, false, "b", "/1"), grant(originA, false, "c", "/2"))
		b.Use(originA, false, "/3")
		b.Use(originB, false, fmt.Sprint("/", i))
		b.Use(originA, true, fmt.Sprint("/", i))
		same(t, "Use of none", realms(b.Grants()), "abc")
		b.Use(originA, false, fmt.Sprint("/", i))
		same(t, "Use", realms(b.Grants()), want)
	}
	// What was used is not the first one to go.
	b := &Bank{}
	for i := range api.MaxEntries {
		b.Put(grant(originA, false, fmt.Sprint(i), fmt.Sprint("/", i)))
	}
	b.Use(originA, false, "/0")
	b.Put(grant(originA, false, "x"))
	same(t, "Put behind Use", realms(b.Grants()), "2345670x")
}

// 7.2

func TestPutSameRealm(t *testing.T) {
	for _, c := range []struct{ realm, want string }{{"a", "bca"}, {"b", "acb"}, {"c", "abc"}, {"d", "abcd"}, {"", "abc"}, {"A", "abcA"}} {
		b := bankOf(plainGrant("a"), plainGrant("b"), plainGrant("c"))
		g := counted(grant(originA, false, c.realm, "/new"), 5)
		g.Creds, g.Ask.Nonce, g.Ask.Scheme = api.Creds{User: "x"}, "new", api.Basic
		b.Put(g)
		l := b.Grants()
		same(t, "Put", realms(l), c.want)
		same(t, "Put", tellGrant(l[len(l)-1]), tellGrant(g))
		wantGet(t, b, originA, false, c.realm, g)
	}
}

// TestPutOtherRealm: the same realm of another origin, and of a proxy, is another one.
func TestPutOtherRealm(t *testing.T) {
	g, p := plainGrant("r"), grant(originA, true, "r", "/")
	wantGrants(t, bankOf(g, p), g, p)
	wantGrants(t, bankOf(g, p, g), p, g)
	wantGrants(t, bankOf(p, g, p), g, p)
	for _, o := range others() {
		other := grant(o, false, "r", "/")
		wantGrants(t, bankOf(g, other), g, other)
		wantGrants(t, bankOf(g, other, g), other, g)
		wantGrants(t, bankOf(other, g, p, other), g, p, other)
	}
}

func TestPutMany(t *testing.T) {
	var l []api.Grant
	b := &Bank{}
	for i := range 30 {
		g := grant([]api.Origin{originA, originB}[i%2], i%3 == 0, fmt.Sprint(i), "/")
		b.Put(g)
		l = append(l, g)
		wantGrants(t, b, l[max(0, len(l)-8):]...)
	}
	// One in the place of another: none has to go.
	l = l[len(l)-8:]
	for i, g := range l {
		c := b.Copy()
		c.Put(counted(g, 3))
		wantGrants(t, c, append(slices.Delete(slices.Clone(l), i, i+1), counted(g, 3))...)
	}
	// Waits have a row of their own.
	wantWaits(t, b)
	if api.MaxEntries != 8 {
		t.Errorf("MaxEntries = %d", api.MaxEntries)
	}
}

func TestDropAndGet(t *testing.T) {
	for _, realm := range []string{"a", "b", "c"} {
		b := bankOf(plainGrant("a"), plainGrant("b"), plainGrant("c"))
		wantGet(t, b, originA, false, realm, plainGrant(realm))
		if !b.Drop(originA, false, realm) {
			t.Errorf("Drop of %q: there was none", realm)
		}
		same(t, "Drop", realms(b.Grants()), strings.ReplaceAll("abc", realm, ""))
		wantGet(t, b, originA, false, realm)
		if b.Drop(originA, false, realm) {
			t.Errorf("Drop of %q twice: there was one", realm)
		}
		same(t, "Drop", realms(b.Grants()), strings.ReplaceAll("abc", realm, ""))
	}
	b := bankOf(plainGrant("r"), grant(originA, true, "s", "/"))
	b.Asked(wait(originA, false, "/x"))
	absent := func(o api.Origin, proxy bool, realm string) {
		t.Helper()
		wantGet(t, b, o, proxy, realm)
		if b.Drop(o, proxy, realm) {
			t.Errorf("Drop(%v, %v, %q): there was one", o, proxy, realm)
		}
		wantGrants(t, b, plainGrant("r"), grant(originA, true, "s", "/"))
	}
	for _, realm := range []string{"", "R", "r ", "rr", "s", "/"} {
		absent(originA, false, realm)
	}
	absent(originA, true, "r")
	for _, o := range others() {
		absent(o, false, "r")
		absent(o, true, "s")
	}
	if !b.Drop(originA, false, "r") {
		t.Error("Drop: there was none")
	}
	wantGrants(t, b, grant(originA, true, "s", "/"))
	wantWaits(t, b, wait(originA, false, "/x"))
}

// TestEmptyRealm: a realm like any other.
func TestEmptyRealm(t *testing.T) {
	b := bankOf(plainGrant(""), plainGrant("r"))
	wantGet(t, b, originA, false, "", plainGrant(""))
	wantGet(t, b, originA, true, "")
	if b.Drop(originA, true, "") || !b.Drop(originA, false, "") || b.Drop(originA, false, "") {
		t.Error("Drop of the empty realm")
	}
	wantGrants(t, b, plainGrant("r"))
}

// TestGetTells: all of a grant, as it is now, and no other one.
func TestGetTells(t *testing.T) {
	g := counted(grant(originA, false, "r"), 9)
	b := bankOf(grant(originB, false, "r", "/"), g, grant(originA, true, "r", "/"), grant(originA, false, "s", "/"))
	wantGet(t, b, originA, false, "r", g)
	wantGet(t, b, originB, false, "r", grant(originB, false, "r", "/"))
	b.Use(originB, false, "/")
	wantGet(t, b, originB, false, "r", counted(grant(originB, false, "r", "/"), 1))
}

func TestAsked(t *testing.T) {
	a, p, o := wait(originA, false, "/a"), wait(originA, true, "/p"), wait(originB, false, "/o")
	again := wait(originA, false, "/again")
	wantWaits(t, askedOf(a, p, o), a, p, o)
	wantWaits(t, askedOf(a, p, o, again), p, o, again)
	wantWaits(t, askedOf(p, a, o, again), p, o, again)
	wantWaits(t, askedOf(p, o, a, again), p, o, again)
	wantWaits(t, askedOf(a, a), a)
	// Another realm of the same origin is asked for in its place, too.
	for _, other := range others() {
		x := wait(other, false, "/a")
		wantWaits(t, askedOf(a, x), a, x)
		wantWaits(t, askedOf(a, x, a), x, a)
	}
	wantGrants(t, askedOf(a, p, o))
	wantWaits(t, askedOf(Wait{}), Wait{})
}

func TestAskedMany(t *testing.T) {
	var l []Wait
	b := bankOf(plainGrant("r"))
	for i := range 30 {
		w := wait(api.Origin{Host: "a", Port: i / 2}, i%2 == 0, fmt.Sprint("/", i))
		b.Asked(w)
		l = append(l, w)
		wantWaits(t, b, l[max(0, len(l)-8):]...)
	}
	wantGrants(t, b, plainGrant("r"))
	l = l[len(l)-8:]
	for i, w := range l {
		c := b.Copy()
		w.Path = "/again"
		c.Asked(w)
		wantWaits(t, c, append(slices.Delete(slices.Clone(l), i, i+1), w)...)
	}
}

func TestTake(t *testing.T) {
	a, p, o := wait(originA, false, "/a"), wait(originA, true, "/p"), wait(originB, false, "/o")
	b := askedOf(a, p, o)
	b.Put(plainGrant("r"))
	wantTake(t, b, originB, true)
	wantTake(t, b, originA2, false)
	wantTake(t, b, api.Origin{}, false)
	wantWaits(t, b, a, p, o)
	wantTake(t, b, originA, true, p)
	wantWaits(t, b, a, o)
	wantTake(t, b, originA, true)
	wantTake(t, b, originA, false, a)
	wantWaits(t, b, o)
	wantTake(t, b, originA, false)
	wantTake(t, b, originB, false, o)
	wantTake(t, b, originB, false)
	wantWaits(t, b)
	wantGrants(t, b, plainGrant("r"))
	b.Asked(a)
	wantTake(t, b, originA, false, a)
	wantTake(t, b, originA, false)
	for _, l := range [][]Wait{{a, p, o}, {p, a, o}, {p, o, a}} {
		b := askedOf(l...)
		wantTake(t, b, originA, false, a)
		wantWaits(t, b, p, o)
	}
}

func TestSweep(t *testing.T) {
	b := bankOf(grant(originA, false, "1", "/"), grant(originB, false, "2", "/"), grant(originA, true, "3", "/"), grant(originA, false, "4"), grant(originA1, true, "5", "/"), grant(originA, false, "", "/a"))
	b.Asked(wait(originA, false, "/x"))
	b.Asked(wait(originB, true, "/y"))
	b.Asked(wait(originA, true, "/z"))
	b.Asked(wait(originA2, false, "/w"))
	sweep := func(o api.Origin, want int, grants string, waits ...Wait) {
		t.Helper()
		if n := b.Sweep(o); n != want {
			t.Errorf("Sweep(%v) = %d; want %d", o, n, want)
		}
		same(t, "Sweep", realms(b.Grants()), grants)
		wantWaits(t, b, waits...)
	}
	sweep(api.Origin{}, 0, "12345", wait(originA, false, "/x"), wait(originB, true, "/y"), wait(originA, true, "/z"), wait(originA2, false, "/w"))
	sweep(originA, 4, "25", wait(originB, true, "/y"), wait(originA2, false, "/w"))
	sweep(originA, 0, "25", wait(originB, true, "/y"), wait(originA2, false, "/w"))
	// An origin with waits and no grants, one with grants and no waits, one with both.
	sweep(originA2, 0, "25", wait(originB, true, "/y"))
	sweep(originA1, 1, "2", wait(originB, true, "/y"))
	sweep(originB, 1, "")
	sweep(originB, 0, "")
}

func TestSpace(t *testing.T) {
	domains := [][]string{nil, {}, {"/d/"}, {"/d", "/", "/d"}, {""}, {"x", "", "é\xff"}}
	schemes := []int{api.Basic, api.DigestMD5, api.DigestSHA, 0, -1, 4, math.MaxInt, math.MinInt}
	for _, domain := range domains {
		for _, scheme := range schemes {
			a := api.Ask{Scheme: scheme, Realm: "r", Domain: domain}
			for _, c := range []struct{ path, dir string }{
				{"/", "/"}, {"/a", "/"}, {"/a/", "/a/"}, {"/a/b", "/a/"}, {"/a/b/", "/a/b/"}, {"/a//", "/a//"}, {"//b", "//"},
				{"", ""}, {"a", ""}, {"a/b", "a/"}, {"é/\xff\n/x", "é/\xff\n/"}, {"/a\nb", "/"}, {"/a?/b", "/a?/"},
			} {
				wantSpace(t, a, true, c.path, "/")
				switch {
				case scheme == 1:
					wantSpace(t, a, false, c.path, c.dir)
				case len(domain) == 0:
					wantSpace(t, a, false, c.path, "/")
				default:
					wantSpace(t, a, false, c.path, domain...)
				}
				for _, proxy := range []bool{false, true} {
					wantSpace(t, a, proxy, c.path, ruleSpace(a, proxy, c.path)...)
				}
			}
		}
	}
}

// TestSpaceIsFound: a grant of the space of what was asked for counts for the path at which it was.
func TestSpaceIsFound(t *testing.T) {
	for _, scheme := range []int{api.Basic, api.DigestMD5, api.DigestSHA} {
		for _, path := range []string{"/", "/a", "/a/", "/a/b", "/a/b/c"} {
			for _, proxy := range []bool{false, true} {
				a := api.Ask{Scheme: scheme}
				g := api.Grant{Origin: originA, Proxy: proxy, Ask: a, Paths: Space(a, proxy, path)}
				wantFind(t, bankOf(g), originA, proxy, path, g)
			}
		}
	}
}

package world

import (
	"fmt"
	"math"
	"slices"
	"strings"
	"testing"

	"gatepost/api"
	"gatepost/bank"
)

// Origins: a1 differs from a in one field.
var (
	originA  = api.Origin{Secure: true, Host: "a.test", Port: 443}
	originB  = api.Origin{Secure: true, Host: "b.test", Port: 443}
	originC  = api.Origin{Secure: true, Host: "c.test", Port: 443}
	originA1 = api.Origin{Secure: false, Host: "a.test", Port: 443}
)

// allowAny is what a server says that allows anything, without credentials.
const allowAny = "Access-Control-Allow-Origin: *\nAccess-Control-Allow-Methods: *\nAccess-Control-Allow-Headers: *"

// change makes an operation another one.
type change func(*api.Op)

// opOf is an operation in partition 0, from a to b's /a/b, that is right.
func opOf(what int, changes ...change) api.Op {
	o := api.Op{What: what, Req: api.Request{From: originA, URL: api.URL{Origin: originB, Path: "/a/b"}, Method: "GET"}}
	for _, c := range changes {
		c(&o)
	}
	return o
}

func in(part int) change            { return func(o *api.Op) { o.Req.Part = part } }
func from(origin api.Origin) change { return func(o *api.Op) { o.Req.From = origin } }
func to(origin api.Origin) change   { return func(o *api.Op) { o.Req.URL.Origin = origin } }
func path(s string) change          { return func(o *api.Op) { o.Req.URL.Path = s } }
func query(s string) change         { return func(o *api.Op) { o.Req.URL.Query = s } }
func method(s string) change        { return func(o *api.Op) { o.Req.Method = s } }
func body(s string) change          { return func(o *api.Op) { o.Req.Body = s } }
func told(s string) change          { return func(o *api.Op) { o.Text = s } }
func nonce(s string) change         { return func(o *api.Op) { o.Cnonce = s } }
func cert(n int) change             { return func(o *api.Op) { o.Cert = n } }
func later(n int) change            { return func(o *api.Op) { o.N = n } }
func with(o *api.Op)                { o.Req.With = true }
func proxy(o *api.Op)               { o.Proxy = true }
func everything(o *api.Op)          { o.All = true }

func by(user, pass string) change {
	return func(o *api.Op) { o.Creds = api.Creds{User: user, Pass: pass} }
}

func heads(names ...string) change {
	return func(o *api.Op) {
		o.Req.Heads = nil
		for _, name := range names {
			o.Req.Heads = append(o.Req.Heads, api.Param{Name: name, Value: "v"})
		}
	}
}

// mixed are operations of all kinds that lay down something of each kind: it is part of them that tells which partition.
func mixed(part int) []api.Op {
	return []api.Op{
		opOf(api.Refused, in(part), told("Basic realm=r")),
		opOf(api.Answered, in(part), by("u", "p")),
		opOf(api.Refused, in(part), to(originA), told(`Digest realm=s, nonce=n, qop=auth, opaque=o, domain="/a/ /c"`)),
		opOf(api.Answered, in(part), to(originA), by("v", "q")),
		opOf(api.Refused, in(part), proxy, told("Digest realm=t, nonce=o, algorithm=SHA-256")),
		opOf(api.Answered, in(part), proxy, by("w", "r")),
		opOf(api.Attach, in(part), path("/a/x")),
		opOf(api.Refused, in(part), told("Basic realm=z")),
		opOf(api.Refused, in(part), to(originC), told(`Digest realm=z, nonce=n, domain="/z/ /y"`)),
		opOf(api.Allowed, in(part), method("PUT"), heads("X-A"), told(allowAny)),
		opOf(api.Allowed, in(part), from(originC), to(originA), query("q"), method("PATCH"), told("Access-Control-Allow-Origin: *\nAccess-Control-Max-Age: 20")),
		opOf(api.Choose, in(part), to(originC), cert(2)),
		opOf(api.Choose, in(part), to(originB), cert(1)),
		opOf(api.Tick, in(part), later(1)),
	}
}

// full is a world that has something of each kind in each partition but the last one; they differ.
func full() *World {
	w := New()
	for part := range 3 {
		for _, o := range mixed(part) {
			w.Do(o)
		}
		for range part {
			w.Do(opOf(api.Attach, in(part)))
			w.Do(opOf(api.Refused, in(part), to(originA1), told("Basic realm=y")))
		}
		w.Do(opOf(api.Choose, in(part), to(originA), cert(10+part)))
	}
	return w
}

// TestNew: nothing in any partition, and the time is 0.
func TestNew(t *testing.T) {
	for _, w := range []*World{New(), New().Copy(), {}} {
		same(t, "New", tell(w), "now 0\npart 0\npart 1\npart 2\npart 3\n")
		for part := range api.MaxParts {
			if len(w.Grants(part))+len(w.Waits(part))+len(w.Passes(part))+len(w.Certs(part)) > 0 || w.Now() != 0 {
				t.Errorf("something in partition %d", part)
			}
			// Each may be the first one to get something.
			c := w.Copy()
			wantDo(t, c, opOf(api.Choose, in(part), cert(1)), api.Reply{What: api.Done})
			same(t, "Certs", tellPart(c, part), tellCert(Cert{originB, 1})+"\n")
		}
	}
	// One isn't another one.
	w := New()
	w.Do(opOf(api.Choose, cert(1)))
	same(t, "New behind another one", tell(New()), tell(&ruleWorld{}))
}

// TestParts: each partition has its own; of one that isn't there there is nothing.
func TestParts(t *testing.T) {
	if api.MaxParts != 4 {
		t.Fatalf("MaxParts = %d", api.MaxParts)
	}
	for part := range 4 {
		w := New()
		for _, o := range mixed(part) {
			w.Do(o)
		}
		before := tell(w)
		for other := range 4 {
			if got := tellPart(w, other); (got != "") != (other == part) {
				t.Errorf("mixed(%d): partition %d has %s", part, other, got)
			}
		}
		for _, other := range []int{-1, -2, 4, 5, part - 4, part + 4, part + 256, math.MaxInt, math.MinInt} {
			if len(w.Grants(other))+len(w.Waits(other))+len(w.Passes(other))+len(w.Certs(other)) > 0 {
				t.Errorf("something in partition %d", other)
			}
		}
		same(t, "behind asking", tell(w), before)
	}
}

// TestTold: what a world has, of each kind, in order.
func TestTold(t *testing.T) {
	w := New()
	for _, o := range mixed(1) {
		w.Do(o)
	}
	domain := []string{"/a/", "/c"}
	grants := []api.Grant{
		{Origin: originA, Creds: api.Creds{User: "v", Pass: "q"}, Ask: api.Ask{Scheme: api.DigestMD5, Realm: "s", Nonce: "n", Opaque: "o", Qop: "auth", Domain: domain}, Paths: domain},
		{Origin: originB, Proxy: true, Creds: api.Creds{User: "w", Pass: "r"}, Ask: api.Ask{Scheme: api.DigestSHA, Realm: "t", Nonce: "o"}, Paths: []string{"/"}},
		{Origin: originB, Creds: api.Creds{User: "u", Pass: "p"}, Ask: api.Ask{Scheme: api.Basic, Realm: "r"}, Count: 1, Paths: []string{"/a/"}},
	}
	waits := []bank.Wait{
		{Origin: originB, Path: "/a/b", Ask: api.Ask{Scheme: api.Basic, Realm: "z"}},
		{Origin: originC, Path: "/a/b", Ask: api.Ask{Scheme: api.DigestMD5, Realm: "z", Nonce: "n", Domain: []string{"/z/", "/y"}}},
	}
	ab, ca := api.URL{Origin: originB, Path: "/a/b"}, api.URL{Origin: originA, Path: "/a/b", Query: "q"}
	passes := []api.Pass{
		{From: originA, URL: ab, Method: "*", Until: 5},
		{From: originA, URL: ab, Head: "*", Until: 5},
		{From: originC, URL: ca, Method: "PATCH", Until: 20},
	}
	same(t, "Grants", each(tellGrant, w.Grants(1)), each(tellGrant, grants))
	same(t, "Waits", each(tellWait, w.Waits(1)), each(tellWait, waits))
	same(t, "Passes", each(tellPass, w.Passes(1)), each(tellPass, passes))
	same(t, "Certs", each(tellCert, w.Certs(1)), each(tellCert, []Cert{{originC, 2}, {originB, 1}}))
	if w.Now() != 1 {
		t.Errorf("Now() = %d", w.Now())
	}
}

// act is something that is done to a world like full.
type act struct {
	name string
	do   func(*World)
}

// acts are some that change it, and some that only seem to.
func acts() []act {
	l := []act{
		{"rows written over", spoilRows},
		{"Take", func(w *World) { w.Take(New(), 1, Bank|Certs) }},
		{"Take of another one", func(w *World) { c := full(); c.Do(opOf(api.Tick, later(9))); w.Take(c, 3, Book|Clock) }},
		{"Copy changed", func(w *World) { c := w.Copy(); c.Do(opOf(api.Clear, everything)); c.Do(opOf(api.Tick, later(3))) }},
	}
	for part := range 4 {
		for _, o := range append(mixed(part),
			opOf(api.Attach, in(part), to(originA)),
			opOf(api.Attach, in(part), proxy, nonce("c")),
			opOf(api.Refused, in(part), to(originA), told("Digest realm=s, nonce=m, stale=true")),
			opOf(api.Answered, in(part), by("x", "y")),
			opOf(api.Check, in(part), method("PUT")),
			opOf(api.Allowed, in(part), method("PUT"), told("")),
			opOf(api.Pick, in(part)),
			opOf(api.Choose, in(part), to(originA), cert(4)),
			opOf(api.Logout, in(part)),
			opOf(api.Clear, in(part)),
			opOf(api.Clear, in(part), everything),
		) {
			l = append(l, act{fmt.Sprintf("%+v", o), func(w *World) { w.Do(o) }})
		}
	}
	return l
}

// spoil writes over a list, and over what stands behind it.
func spoil[T any](l []T, over T) {
	l = l[:cap(l)]
	for i := range l {
		l[i] = over
	}
}

// spoilRows writes over all that is told, and over the lists in it.
func spoilRows(w *World) {
	origin := api.Origin{Host: "spoilt"}
	for part := range 4 {
		for _, g := range w.Grants(part) {
			spoil(g.Paths, "/spoilt")
			spoil(g.Ask.Domain, "/spoilt")
		}
		for _, x := range w.Waits(part) {
			spoil(x.Ask.Domain, "/spoilt")
		}
		spoil(w.Grants(part), api.Grant{Origin: origin})
		spoil(w.Waits(part), bank.Wait{Origin: origin})
		spoil(w.Passes(part), api.Pass{From: origin, Until: math.MaxInt})
		spoil(w.Certs(part), Cert{origin, 9})
	}
}

// TestCopy: it has the same; whatever is done to the one and the other, each is as if it were alone.
func TestCopy(t *testing.T) {
	all := tell(full())
	for _, a := range acts() {
		w := full()
		c := w.Copy()
		same(t, "Copy", tell(c), all)
		a.do(w)
		same(t, a.name+": the copy", tell(c), all)
		w = full()
		c = w.Copy()
		a.do(c)
		same(t, a.name+" on the copy", tell(w), all)
	}
}

// TestCopyBoth: one act here, another one there.
func TestCopyBoth(t *testing.T) {
	l := acts()
	var alone []string
	for _, a := range l {
		w := full()
		a.do(w)
		alone = append(alone, tell(w))
	}
	start := full()
	for i, a := range l {
		for j, b := range l {
			w := start.Copy()
			c := w.Copy()
			a.do(w)
			b.do(c)
			same(t, a.name+" beside "+b.name, tell(w), alone[i])
			same(t, b.name+" on a copy beside "+a.name, tell(c), alone[j])
			if t.Failed() {
				return
			}
		}
	}
}

// TestRowsApart: what is changed in a row that was told changes no world.
func TestRowsApart(t *testing.T) {
	w := full()
	c := w.Copy()
	before := tell(w)
	spoilRows(w)
	same(t, "behind rows written over", tell(w), before)
	same(t, "the copy", tell(c), before)
	// Nor do two rows that were told share anything.
	one, two := w.Grants(0), w.Grants(0)
	spoil(one, api.Grant{})
	spoil(one[0].Paths, "/spoilt")
	same(t, "another row", each(tellGrant, two), each(tellGrant, w.Grants(0)))
	certs, others := w.Certs(0), w.Certs(0)
	spoil(certs, Cert{})
	same(t, "another row", each(tellCert, others), each(tellCert, w.Certs(0)))
}

// freshOp is an operation with texts of its own.
func freshOp(what int, text string) api.Op {
	clone := strings.Clone
	origin := func(host string) api.Origin { return api.Origin{Secure: true, Host: clone(host), Port: 443} }
	return api.Op{
		What:   what,
		Text:   clone(text),
		Creds:  api.Creds{User: clone("user"), Pass: clone("pass")},
		Cnonce: clone("cnonce"),
		Cert:   1,
		Req: api.Request{
			From:   origin("from.test"),
			URL:    api.URL{Origin: origin("to.test"), Path: clone("/path"), Query: clone("query")},
			Method: clone("PATCH"),
			Heads:  []api.Param{{Name: clone("X-Name"), Value: clone("value")}},
			Body:   clone("body"),
		},
	}
}

// TestMemory: what comes out shares nothing with what was handed in, with the world, or with what else comes out.
func TestMemory(t *testing.T) {
	challenge := `Digest realm=realm, nonce=nonce, opaque=opaque, qop=auth, domain="/path /other"`
	answer := "Access-Control-Allow-Origin: *\nAccess-Control-Allow-Methods: PATCH\nAccess-Control-Allow-Headers: X-Name"
	ops := []api.Op{
		freshOp(api.Refused, challenge),
		freshOp(api.Answered, ""),
		freshOp(api.Attach, ""),
		freshOp(api.Refused, strings.Replace(challenge, "nonce=nonce", "nonce=another, stale=true", 1)),
		freshOp(api.Refused, strings.Replace(challenge, "=realm", "=another", 1)),
		freshOp(api.Allowed, answer),
		freshOp(api.Choose, ""),
	}
	w := New()
	var heads []string
	for _, o := range ops {
		reply := w.Do(o)
		if reply.What != api.Done && reply.What != api.Prompt {
			t.Fatalf("%+v: %+v", o, reply)
		}
		if reply.Head != "" {
			heads = append(heads, reply.Head)
		}
	}
	taken := New()
	taken.Take(w, 0, Bank|Book|Certs|Clock)
	same(t, "Take of all", tell(taken), tell(w))
	outs := map[string][]stretch{
		"the world": memory(w), "Copy": memory(w.Copy()), "what took all": memory(taken), "Head": memory(heads),
		"Grants": memory(w.Grants(0)), "Waits": memory(w.Waits(0)), "Passes": memory(w.Passes(0)), "Certs": memory(w.Certs(0)),
		"Grants again": memory(w.Grants(0)), "Waits again": memory(w.Waits(0)), "Passes again": memory(w.Passes(0)), "Certs again": memory(w.Certs(0)),
	}
	for name, out := range outs {
		apart(t, name+" and what was handed in", out, memory(ops))
		for other := range outs {
			if other != name {
				apart(t, name+" and "+other, out, outs[other])
			}
		}
	}
}

// TestNothingWritten: neither an operation's list, nor what stands behind its length.
func TestNothingWritten(t *testing.T) {
	l := []api.Param{{Name: "X-B", Value: "2"}, {Name: "X-A", Value: "1"}, {Name: "X-A", Value: "3"}, {Name: "Behind"}}
	before := fmt.Sprint(l)
	for what := api.Attach; what <= api.Tick; what++ {
		for _, text := range []string{"", "Basic realm=r", allowAny} {
			w := full()
			o := opOf(what, told(text), method("PUT"))
			o.Req.Heads = l[:3]
			w.Do(o)
			w.Do(o)
			Cells(o)
			same(t, fmt.Sprintf("Heads behind operation %d", what), fmt.Sprint(l), before)
		}
	}
}

// TestNothingKept: of what is gone nothing is kept, behind a row's length neither.
func TestNothingKept(t *testing.T) {
	for _, a := range acts() {
		w := full()
		a.do(w)
		for _, p := range w.parts {
			for _, c := range p.certs[len(p.certs):cap(p.certs)] {
				same(t, a.name+": kept", tellCert(c), tellCert(Cert{}))
			}
		}
	}
}

// partsBut are the partitions but one.
func partsBut(part int) []int {
	return slices.DeleteFunc([]int{0, 1, 2, 3}, func(other int) bool { return other == part })
}

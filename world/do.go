package world

import (
	"slices"
	"strings"

	"gatepost/api"
	"gatepost/ask"
	"gatepost/bank"
	"gatepost/cors"
	"gatepost/fetch"
	"gatepost/proof"
	"gatepost/rows"
	"gatepost/url"
)

// Cells are what an operation asks for, and whether it changes any of that. (One that may not be: nothing.)
func Cells(o api.Op) (_ int, _ bool) {
	if isOdd(o) {
		return 0, false
	}
	switch o.What {
	case api.Check:
		return Book | Clock, false
	case api.Allowed:
		return Book | Clock, true
	case api.Pick:
		return Certs, false
	case api.Choose:
		return Certs, true
	case api.Clear:
		return Bank | Book | Certs, true
	case api.Tick:
		return Clock, true
	}
	return Bank, true
}

// Do does an operation. (Odd: it may not be so: nothing is changed.)
func (w *World) Do(o api.Op) (_ api.Reply) {
	if isOdd(o) {
		return api.Reply{What: api.Odd}
	}
	var r api.Reply
	p, origin := w.at(o.Req.Part), o.Req.URL.Origin
	switch o.What {
	case api.Attach:
		r.What, r.Head = p.attach(o)
	case api.Refused:
		r.What = p.refused(o)
	case api.Answered:
		r.What = p.answered(o)
	case api.Check:
		r.What = p.check(o.Req, w.now)
	case api.Allowed:
		r.What = p.allowed(o, w.now)
	case api.Pick:
		r.What, r.Cert = p.pick(origin)
	case api.Choose:
		r.What = p.choose(origin, o.Cert)
	case api.Logout:
		r.What = p.logout(origin)
	case api.Clear:
		r.What = p.clear(origin, o.All)
	case api.Tick:
		r.What = w.tick(o.N)
	}
	return r
}

// isOdd says whether an operation may not be, whatever there is in the world.
func isOdd(o api.Op) bool {
	switch {
	case o.What < api.Attach || o.What > api.Tick:
		return true
	case !fetch.Right(o.Req) || !url.Right(o.Req.From) || !url.Right(o.Req.URL.Origin):
		return true
	case !strings.HasPrefix(o.Req.URL.Path, "/") || len(o.Req.URL.Path) > api.MaxPath:
		return true
	}
	return len(o.Text) > api.MaxText
}

// attach is a header by the grant that counts for a request; a grant by which none can be made is gone.
func (p *partition) attach(o api.Op) (int, string) {
	g, err := p.bank.Use(o.Req.URL.Origin, o.Proxy, o.Req.URL.Path)
	if err != nil {
		return api.None, ""
	}
	head, err := header(g, o)
	if err != nil {
		p.bank.Drop(g.Origin, g.Proxy, g.Ask.Realm)
		return api.None, ""
	}
	return api.Done, head
}

// header proves a request by a grant, the last use of which is counted.
func header(g api.Grant, o api.Op) (string, error) {
	if g.Ask.Scheme == api.Basic {
		return proof.Basic(g.Creds)
	}
	return proof.Digest(g.Ask, g.Creds, fetch.Method(o.Req.Method), url.Target(o.Req.URL), o.Req.Body, o.Cnonce, g.Count)
}

// refused renews the nonce of a grant that is merely stale; for anything else a user is to be asked.
func (p *partition) refused(o api.Op) int {
	challenges, err := ask.Parse(o.Text)
	if err != nil {
		return api.Odd
	}
	a, ok := ask.Best(challenges)
	if !ok {
		return api.None
	}
	origin := o.Req.URL.Origin
	if g, ok := p.bank.Get(origin, o.Proxy, a.Realm); ok && renews(a, g.Ask) {
		g.Ask, g.Count = a, 0
		p.bank.Put(g)
		return api.Done
	}
	p.bank.Drop(origin, o.Proxy, a.Realm)
	p.bank.Asked(bank.Wait{Origin: origin, Proxy: o.Proxy, Path: o.Req.URL.Path, Ask: a})
	return api.Prompt
}

// renews says whether what is asked for now is answered by the same credentials as what was asked for. (With the same nonce its counts would begin anew.)
func renews(now, before api.Ask) bool {
	return now.Stale && now.Scheme == before.Scheme && now.Nonce != before.Nonce
}

// answered makes a grant of what was asked for last.
func (p *partition) answered(o api.Op) int {
	wait, ok := p.bank.Take(o.Req.URL.Origin, o.Proxy)
	if !ok {
		return api.None
	}
	p.bank.Put(api.Grant{
		Origin: wait.Origin,
		Proxy:  wait.Proxy,
		Creds:  o.Creds,
		Ask:    wait.Ask,
		Paths:  bank.Space(wait.Ask, wait.Proxy, wait.Path),
	})
	return api.Done
}

// check says whether a request need be asked for first.
func (p *partition) check(r api.Request, now int) int {
	if p.book.Covers(r, now) {
		return api.No
	}
	return api.Yes
}

// allowed keeps what a server allows; where it doesn't allow a request, what it allowed for the like of it counts no more.
func (p *partition) allowed(o api.Op, now int) int {
	fields, err := cors.Fields(o.Text)
	if err != nil {
		return api.Odd
	}
	passes, err := cors.Grant(o.Req, fields, now)
	if err != nil {
		p.book.Forget(o.Req)
		return api.None
	}
	p.book.Put(passes, now)
	return api.Done
}

// pick is which certificate was chosen for an origin; if none was, a user is to be asked.
func (p *partition) pick(origin api.Origin) (int, int) {
	i := slices.IndexFunc(p.certs, certOf(origin))
	if i < 0 {
		return api.Prompt, 0
	}
	return api.Done, p.certs[i].N
}

// choose keeps which certificate was chosen for an origin.
func (p *partition) choose(origin api.Origin, n int) int {
	if n < 0 {
		return api.Odd
	}
	p.certs = rows.Renewed(p.certs, freshCert(Cert{Origin: origin, N: n}), certOf(origin))
	return api.Done
}

// logout lets an origin's grants go, and what it asked for.
func (p *partition) logout(origin api.Origin) int {
	p.bank.Sweep(origin)
	return api.Done
}

// clear lets all go that is an origin's, or all that there is.
func (p *partition) clear(origin api.Origin, all bool) int {
	if all {
		*p = partition{}
		return api.Done
	}
	p.bank.Sweep(origin)
	p.book.Sweep(origin)
	p.certs = slices.DeleteFunc(p.certs, certOf(origin))
	return api.Done
}

// tick lets time go on, up to MaxTime.
func (w *World) tick(n int) int {
	// Not their sum: that could wrap round.
	if n < 0 || n > api.MaxTime-w.now {
		return api.Odd
	}
	w.now += n
	return api.Done
}

// certOf finds an origin's Cert.
func certOf(origin api.Origin) func(Cert) bool {
	return func(c Cert) bool { return c.Origin == origin }
}

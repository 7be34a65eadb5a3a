package bank

import (
	"fmt"
	"math/rand"
	"testing"

	"gatepost/api"
)

// pair is a bank, and what the rule tells of it.
type pair struct {
	bank *Bank
	rule *ruleBank
}

func newPair() pair { return pair{&Bank{}, &ruleBank{}} }

func (p pair) copy() pair { return pair{p.bank.Copy(), p.rule.Copy()} }

// alike: the bank has what the rule has.
func (p pair) alike(t *testing.T, what string) {
	t.Helper()
	same(t, what+": Grants", tellGrants(p.bank.Grants()), tellGrants(p.rule.Grants()))
	same(t, what+": Waits", tellWaits(p.bank.Waits()), tellWaits(p.rule.Waits()))
}

// step is one call of nine, with these.
type step struct {
	call int
	g    api.Grant
	path string
}

func (s step) String() string { return fmt.Sprintf("%d of %s, %q", s.call, tellGrant(s.g), s.path) }

// do makes the call on both, and holds the answers against each other.
func (p pair) do(t *testing.T, s step) {
	t.Helper()
	o, proxy := s.g.Origin, s.g.Proxy
	var got, want string
	switch s.call {
	case 0:
		g, ok := p.bank.Find(o, proxy, s.path)
		h, is := p.rule.Find(o, proxy, s.path)
		got, want = fmt.Sprint(tellGrant(g), ok), fmt.Sprint(tellGrant(h), is)
	case 1:
		got, want = tellUse(p.bank.Use(o, proxy, s.path)), tellUse(p.rule.Use(o, proxy, s.path))
	case 2:
		p.bank.Put(s.g)
		p.rule.Put(s.g)
	case 3:
		got, want = fmt.Sprint(p.bank.Drop(o, proxy, s.g.Ask.Realm)), fmt.Sprint(p.rule.Drop(o, proxy, s.g.Ask.Realm))
	case 4:
		g, ok := p.bank.Get(o, proxy, s.g.Ask.Realm)
		h, is := p.rule.Get(o, proxy, s.g.Ask.Realm)
		got, want = fmt.Sprint(tellGrant(g), ok), fmt.Sprint(tellGrant(h), is)
	case 5:
		w := Wait{Origin: o, Proxy: proxy, Path: s.path, Ask: s.g.Ask}
		p.bank.Asked(w)
		p.rule.Asked(w)
	case 6:
		w, ok := p.bank.Take(o, proxy)
		v, is := p.rule.Take(o, proxy)
		got, want = fmt.Sprint(tellWait(w), ok), fmt.Sprint(tellWait(v), is)
	case 7:
		got, want = fmt.Sprint(p.bank.Sweep(o)), fmt.Sprint(p.rule.Sweep(o))
	case 8:
		got, want = fmt.Sprintf("%q", Space(s.g.Ask, proxy, s.path)), fmt.Sprintf("%q", ruleSpace(s.g.Ask, proxy, s.path))
	}
	same(t, s.String(), got, want)
	p.alike(t, s.String())
}

// drawn is a step by numbers below those that are asked for.
func drawn(below func(int) int) step {
	spaces := []string{"", "/", "/a", "/a/", "/a/b", "/b/"}
	g := api.Grant{
		Origin: append(others(), originA)[below(5)],
		Proxy:  below(3) == 0,
		Creds:  api.Creds{User: fmt.Sprint("u", below(100)), Pass: fmt.Sprint("p", below(100))},
		Ask:    api.Ask{Scheme: below(5), Realm: []string{"", "r", "R", "s"}[below(4)], Nonce: fmt.Sprint("n", below(100)), Sess: below(2) == 0, Stale: below(2) == 0},
		Count:  []int{0, 1, api.MaxCount - 1, api.MaxCount, api.MaxCount + 1}[below(5)],
	}
	for range below(4) {
		g.Paths = append(g.Paths, spaces[below(len(spaces))])
	}
	for range below(3) {
		g.Ask.Domain = append(g.Ask.Domain, spaces[below(len(spaces))])
	}
	calls := []int{0, 1, 1, 2, 2, 2, 2, 2, 2, 3, 4, 5, 5, 5, 5, 6, 7, 8}
	return step{call: calls[below(len(calls))], g: g, path: spaces[below(len(spaces))] + []string{"", "x", "/"}[below(3)]}
}

// TestAgainstRule: many calls, on some banks that are copies of one another.
func TestAgainstRule(t *testing.T) {
	die := rand.New(rand.NewSource(7))
	for range 60 {
		pairs := []pair{newPair()}
		for range 60 {
			p := pairs[die.Intn(len(pairs))]
			if die.Intn(10) == 0 {
				pairs = append(pairs, p.copy())
			}
			p.do(t, drawn(die.Intn))
			if t.Failed() {
				return
			}
		}
		for _, p := range pairs {
			p.alike(t, "at the end")
		}
	}
}

// TestShortRows: every row of at most four of some calls that stand in each other's way.
func TestShortRows(t *testing.T) {
	r, far := grant(originA, false, "r", "/"), grant(originA, false, "s", "/a")
	calls := []step{
		{call: 2, g: r},
		{call: 2, g: far},
		{call: 2, g: counted(grant(originA, false, "r", "/a"), api.MaxCount)},
		{call: 2, g: grant(originA, true, "r", "/")},
		{call: 1, g: r, path: "/a"},
		{call: 1, g: r, path: "/"},
		{call: 3, g: r},
		{call: 5, g: r, path: "/a"},
		{call: 6, g: r},
		{call: 7, g: r},
	}
	var rows func(p pair, left int)
	rows = func(p pair, left int) {
		for _, s := range calls {
			q := p.copy()
			q.do(t, s)
			if t.Failed() {
				return
			}
			if left > 1 {
				rows(q, left-1)
			}
		}
	}
	rows(newPair(), 4)
}

func FuzzAgainstRule(f *testing.F) {
	f.Add([]byte("abc"))
	f.Add([]byte("\x00\x01\x02\x03\x04\x05\x06\x07\x08\x09"))
	f.Fuzz(func(t *testing.T, l []byte) {
		p := newPair()
		for len(l) > 0 {
			p.do(t, drawn(func(most int) int {
				if len(l) == 0 {
					return 0
				}
				n := int(l[0]) % most
				l = l[1:]
				return n
			}))
		}
	})
}

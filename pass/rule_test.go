package pass

import (
	"fmt"
	"math/rand"
	"reflect"
	"slices"
	"strings"
	"testing"

	"gatepost/api"
	"gatepost/cors"
)

// ruleBook is a book told by other means: step by step as the document tells it, with texts that say what a pass is for.
type ruleBook struct{ row []api.Pass }

func origin(o api.Origin) string { return fmt.Sprintf("%t %q %d", o.Secure, o.Host, o.Port) }

func goal(u api.URL) string { return fmt.Sprintf("%s %q %q", origin(u.Origin), u.Path, u.Query) }

// way is where something comes from, and goes to; what: all of a pass but until when.
func way(from api.Origin, to api.URL) string { return origin(from) + " > " + goal(to) }

func what(p api.Pass) string {
	return fmt.Sprintf("%s with %t method %q head %q", way(p.From, p.URL), p.With, p.Method, p.Head)
}

func tell(p api.Pass) string { return fmt.Sprintf("%s until %d", what(p), p.Until) }

func tellAll(l []api.Pass) string {
	var out []string
	for _, p := range l {
		out = append(out, tell(p))
	}
	return strings.Join(out, "\n")
}

// keep leaves in the row what is good, and tells how many are gone.
func (r *ruleBook) keep(good func(api.Pass) bool) (gone int) {
	var row []api.Pass
	for _, p := range r.row {
		if good(p) {
			row = append(row, p)
		}
	}
	gone = len(r.row) - len(row)
	r.row = row
	return gone
}

func (r *ruleBook) List() []api.Pass { return slices.Clone(r.row) }

func (r *ruleBook) Copy() *ruleBook { return &ruleBook{r.List()} }

func (r *ruleBook) Put(l []api.Pass, now int) {
	for _, p := range l {
		r.keep(func(q api.Pass) bool { return what(q) != what(p) })
		r.row = append(r.row, p)
	}
	r.keep(func(q api.Pass) bool { return q.Until > now })
	for len(r.row) > 32 {
		r.row = r.row[1:]
	}
}

func (r *ruleBook) For(q api.Request, now int) []api.Pass {
	c := r.Copy()
	c.keep(func(p api.Pass) bool { return way(p.From, p.URL) == way(q.From, q.URL) })
	c.keep(func(p api.Pass) bool { return now < p.Until })
	if q.With {
		c.keep(func(p api.Pass) bool { return p.With })
	}
	return c.row
}

func (r *ruleBook) Covers(q api.Request, now int) bool {
	if cors.Needs(q) {
		return cors.Covers(q, r.For(q, now))
	}
	return true
}

func (r *ruleBook) Forget(q api.Request) int {
	return r.keep(func(p api.Pass) bool { return way(p.From, p.URL) != way(q.From, q.URL) })
}

func (r *ruleBook) Sweep(o api.Origin) int {
	from := r.keep(func(p api.Pass) bool { return origin(p.From) != origin(o) })
	return from + r.keep(func(p api.Pass) bool { return origin(p.URL.Origin) != origin(o) })
}

// same asks whether two texts are the same.
func same(t *testing.T, what, got, want string) {
	t.Helper()
	if got != want {
		t.Errorf("%.500s: %s\nwant: %s", what, got, want)
	}
}

// wantList: a book has these, in this order.
func wantList(t *testing.T, b *Book, want ...api.Pass) {
	t.Helper()
	same(t, "List", tellAll(b.List()), tellAll(want))
}

// wantFor: these count for a request, and the book is as it was.
func wantFor(t *testing.T, b *Book, r api.Request, now int, want ...api.Pass) {
	t.Helper()
	before := tellAll(b.List())
	same(t, fmt.Sprintf("For(%+v, %d)", r, now), tellAll(b.For(r, now)), tellAll(want))
	same(t, "List behind For", tellAll(b.List()), before)
}

func wantCovers(t *testing.T, b *Book, r api.Request, now int, want bool) {
	t.Helper()
	before := tellAll(b.List())
	if got := b.Covers(r, now); got != want {
		t.Errorf("Covers(%+v, %d) = %v; want %v; of\n%s", r, now, got, want, before)
	}
	same(t, "List behind Covers", tellAll(b.List()), before)
}

// wantForget and wantSweep: so many are gone, and these are left.
func wantForget(t *testing.T, b *Book, r api.Request, n int, left ...api.Pass) {
	t.Helper()
	before := tellAll(b.List())
	if got := b.Forget(r); got != n {
		t.Errorf("Forget(%+v) = %d; want %d; of\n%s", r, got, n, before)
	}
	wantList(t, b, left...)
}

func wantSweep(t *testing.T, b *Book, o api.Origin, n int, left ...api.Pass) {
	t.Helper()
	before := tellAll(b.List())
	if got := b.Sweep(o); got != n {
		t.Errorf("Sweep(%+v) = %d; want %d; of\n%s", o, got, n, before)
	}
	wantList(t, b, left...)
}

// pair is a book, and what the rule tells of it.
type pair struct {
	book *Book
	rule *ruleBook
}

func newPair() pair { return pair{&Book{}, &ruleBook{}} }

func (p pair) copy() pair { return pair{p.book.Copy(), p.rule.Copy()} }

// step is one call of five, with these.
type step struct {
	call int
	l    []api.Pass
	r    api.Request
	now  int
}

// do makes the call on both, and holds the answers against each other.
func (p pair) do(t *testing.T, s step) {
	t.Helper()
	var got, want string
	switch s.call {
	case 0:
		l := slices.Clone(s.l)
		p.book.Put(l, s.now)
		p.rule.Put(s.l, s.now)
		same(t, "what was put", tellAll(l), tellAll(s.l))
	case 1:
		got, want = tellAll(p.book.For(s.r, s.now)), tellAll(p.rule.For(s.r, s.now))
	case 2:
		got, want = fmt.Sprint(p.book.Covers(s.r, s.now)), fmt.Sprint(p.rule.Covers(s.r, s.now))
	case 3:
		got, want = fmt.Sprint(p.book.Forget(s.r)), fmt.Sprint(p.rule.Forget(s.r))
	case 4:
		got, want = fmt.Sprint(p.book.Sweep(s.r.From)), fmt.Sprint(p.rule.Sweep(s.r.From))
	}
	same(t, fmt.Sprintf("%+v", s), got, want)
	same(t, fmt.Sprintf("List behind %+v", s), tellAll(p.book.List()), tellAll(p.rule.List()))
}

// drawnOrigin and its likes are made by numbers below those that are asked for.
func drawnOrigin(below func(int) int) api.Origin {
	return []api.Origin{originA, originA, originB, originB, {Host: "a.test", Port: 443}, {Secure: true, Host: "a.test", Port: 444}}[below(6)]
}

func drawnURL(below func(int) int) api.URL {
	return api.URL{Origin: drawnOrigin(below), Path: []string{"/", "/", "/", "/a"}[below(4)], Query: []string{"", "", "", "q"}[below(4)]}
}

func drawnPass(below func(int) int) api.Pass {
	p := api.Pass{From: drawnOrigin(below), URL: drawnURL(below), With: below(2) == 0, Until: below(20) - 2}
	if below(2) == 0 {
		p.Method = []string{"PUT", "*", "patch", "GET"}[below(4)]
	} else {
		p.Head = []string{"x-a", "*", "x-b", "authorization"}[below(4)]
	}
	return p
}

func drawnRequest(below func(int) int) api.Request {
	r := api.Request{Part: below(4), From: drawnOrigin(below), URL: drawnURL(below), With: below(3) == 0, Method: []string{"GET", "put", "PUT", "patch", "DELETE"}[below(5)]}
	for range below(3) {
		r.Heads = append(r.Heads, api.Param{Name: []string{"X-A", "x-b", "Authorization", "Accept"}[below(4)], Value: "text/html"})
	}
	return r
}

func drawn(below func(int) int) step {
	s := step{call: []int{0, 0, 0, 0, 1, 1, 2, 2, 3, 4}[below(10)], r: drawnRequest(below), now: below(12) - 1}
	for range []int{0, 1, 2, 4, 8, 20, 50}[below(7)] {
		p := drawnPass(below)
		// Often one that is for the request, or one like the one ahead.
		switch n := below(6); {
		case n < 2:
			p.From, p.URL = s.r.From, s.r.URL
		case n == 2 && len(s.l) > 0:
			until := p.Until
			p = s.l[below(len(s.l))]
			p.Until = until
		}
		s.l = append(s.l, p)
	}
	return s
}

// TestAgainstRule: many calls, on some books that are copies of one another; all that may be told is told often.
func TestAgainstRule(t *testing.T) {
	die := rand.New(rand.NewSource(10))
	var covered, uncovered, full, gone int
	for range 80 {
		pairs := []pair{newPair()}
		for range 60 {
			p := pairs[die.Intn(len(pairs))]
			if die.Intn(10) == 0 {
				pairs = append(pairs, p.copy())
			}
			s := drawn(die.Intn)
			if cors.Needs(s.r) && p.rule.Covers(s.r, s.now) {
				covered++
			} else if cors.Needs(s.r) {
				uncovered++
			}
			if len(p.rule.row) == 32 {
				full++
			}
			if p.rule.Copy().Forget(s.r) > 0 {
				gone++
			}
			p.do(t, s)
			if t.Failed() {
				return
			}
		}
		for _, p := range pairs {
			same(t, "at the end", tellAll(p.book.List()), tellAll(p.rule.List()))
		}
	}
	if covered < 50 || uncovered < 500 || full < 200 || gone < 300 {
		t.Errorf("drawn: %d covered, %d not, %d full, %d gone", covered, uncovered, full, gone)
	}
}

// TestShortRows: every row of at most four of some calls that stand in each other's way.
func TestShortRows(t *testing.T) {
	a, b := base(), base()
	b.Head, b.Method = "x-a", ""
	r := requestOf(a)
	r.Heads = []api.Param{{Name: "X-A"}}
	calls := []step{
		{call: 0, l: []api.Pass{a}, now: 0},
		{call: 0, l: []api.Pass{until(a, 3), b}, now: 2},
		{call: 0, l: []api.Pass{b, until(b, 2)}, now: 2},
		{call: 0, l: []api.Pass{until(b, 3), a, until(a, 2)}, now: 0},
		{call: 0, now: 2},
		{call: 0, now: 3},
		{call: 1, r: r, now: 2},
		{call: 2, r: r, now: 2},
		{call: 3, r: r},
		{call: 4, r: r},
	}
	var rows func(p pair, left int)
	rows = func(p pair, left int) {
		for _, s := range calls {
			q := p.copy()
			q.do(t, s)
			if t.Failed() {
				return
			}
			if left > 1 {
				rows(q, left-1)
			}
		}
	}
	rows(newPair(), 4)
}

func FuzzAgainstRule(f *testing.F) {
	f.Add([]byte("abc"))
	f.Add([]byte("\x00\x01\x02\x03\x04\x05\x06\x07\x08\x09"))
	f.Fuzz(func(t *testing.T, l []byte) {
		p := newPair()
		for len(l) > 0 {
			p.do(t, drawn(func(most int) int {
				if len(l) == 0 {
					return 0
				}
				n := int(l[0]) % most
				l = l[1:]
				return n
			}))
		}
	})
}

// stretch is a piece of memory.
type stretch struct{ from, to uintptr }

// memory is where the texts and lists of things lie, with what stands behind a list's length.
func memory(things ...any) (l []stretch) {
	for _, x := range things {
		l = walk(l, reflect.ValueOf(x))
	}
	return l
}

func walk(l []stretch, v reflect.Value) []stretch {
	switch v.Kind() {
	case reflect.String:
		if v.Len() > 0 {
			from := uintptr(reflect.ValueOf(v.String()).UnsafePointer())
			l = append(l, stretch{from, from + uintptr(v.Len())})
		}
	case reflect.Slice:
		if v.Cap() > 0 {
			from := v.Pointer()
			l = append(l, stretch{from, from + uintptr(v.Cap())*v.Type().Elem().Size()})
		}
		for i := range v.Len() {
			l = walk(l, v.Index(i))
		}
	case reflect.Struct:
		for i := range v.NumField() {
			l = walk(l, v.Field(i))
		}
	case reflect.Pointer:
		l = walk(l, v.Elem())
	}
	return l
}

// apart: no piece of memory of the one is one of the other.
func apart(t *testing.T, what string, one, other []stretch) {
	t.Helper()
	if len(one) == 0 || len(other) == 0 {
		t.Errorf("%s: there is nothing to be held apart", what)
	}
	for _, x := range one {
		for _, y := range other {
			if x.from < y.to && y.from < x.to {
				t.Errorf("%s: memory is shared", what)
				return
			}
		}
	}
}

package pass

import (
	"fmt"
	"math"
	"reflect"
	"slices"
	"strings"
	"testing"

	"gatepost/api"
)

var (
	originA = api.Origin{Secure: true, Host: "a.test", Port: 443}
	originB = api.Origin{Secure: true, Host: "b.test", Port: 443}
	originC = api.Origin{Secure: true, Host: "c.test", Port: 443}
)

// base is a pass from a to b, of a method, until 10.
func base() api.Pass {
	return api.Pass{From: originA, URL: api.URL{Origin: originB, Path: "/a/b", Query: "q"}, Method: "PUT", Until: 10}
}

func until(p api.Pass, time int) api.Pass {
	p.Until = time
	return p
}

func withCreds(p api.Pass, with bool) api.Pass {
	p.With = with
	return p
}

// methods and heads are passes like the base, of just that.
func methods(l ...string) (out []api.Pass) {
	for _, s := range l {
		p := base()
		p.Method = s
		out = append(out, p)
	}
	return out
}

func heads(l ...string) (out []api.Pass) {
	for _, s := range l {
		p := base()
		p.Method, p.Head = "", s
		out = append(out, p)
	}
	return out
}

// along are passes like the base, from an origin to another one.
func along(from, to api.Origin) api.Pass {
	p := base()
	p.From, p.URL.Origin = from, to
	return p
}

// requestOf is a request for which a pass is.
func requestOf(p api.Pass) api.Request {
	return api.Request{Part: 1, From: p.From, URL: p.URL, Method: "PUT", With: p.With}
}

// bookOf is a book into which these were put at 0.
func bookOf(l ...api.Pass) *Book {
	b := &Book{}
	b.Put(l, 0)
	return b
}

// many are passes of headers' names that tell their number.
func many(from, to int) (out []api.Pass) {
	for i := from; i < to; i++ {
		out = append(out, heads(fmt.Sprint("h", i))...)
	}
	return out
}

// otherWays are passes that differ from p in where they come from, or go to, each in one field; others: in any single field but Until.
func otherWays(p api.Pass) []api.Pass {
	return differ(p, []func(*api.Pass){
		func(p *api.Pass) { p.From.Secure = !p.From.Secure },
		func(p *api.Pass) { p.From.Host = "x." + p.From.Host },
		func(p *api.Pass) { p.From.Port++ },
		func(p *api.Pass) { p.URL.Secure = !p.URL.Secure },
		func(p *api.Pass) { p.URL.Host = strings.ToUpper(p.URL.Host) },
		func(p *api.Pass) { p.URL.Port-- },
		func(p *api.Pass) { p.URL.Path += "/" },
		func(p *api.Pass) { p.URL.Query = "" },
	})
}

func others(p api.Pass) []api.Pass {
	return append(otherWays(p), differ(p, []func(*api.Pass){
		func(p *api.Pass) { p.With = !p.With },
		func(p *api.Pass) { p.Method = strings.ToLower(p.Method) },
		func(p *api.Pass) { p.Head = "x-a" },
	})...)
}

func differ(p api.Pass, changes []func(*api.Pass)) (out []api.Pass) {
	for _, change := range changes {
		q := p
		change(&q)
		out = append(out, q)
	}
	return out
}

// fields is how many single fields a thing has.
func fields(v reflect.Type) (n int) {
	if v.Kind() != reflect.Struct {
		return 1
	}
	for i := range v.NumField() {
		n += fields(v.Field(i).Type)
	}
	return n
}

// TestOthers: these tests take each single field.
func TestOthers(t *testing.T) {
	if n := fields(reflect.TypeFor[api.Pass]()); len(others(base())) != n-1 {
		t.Errorf("%d fields of %d", len(others(base())), n-1)
	}
	if n := fields(reflect.TypeFor[api.Origin]()) + fields(reflect.TypeFor[api.URL]()); len(otherWays(base())) != n {
		t.Errorf("%d fields of %d", len(otherWays(base())), n)
	}
}

// TestZero: nothing is in it, and each call may be the first one.
func TestZero(t *testing.T) {
	wantList(t, &Book{})
	wantList(t, (&Book{}).Copy())
	for _, p := range append(others(base()), base(), api.Pass{}) {
		r := requestOf(p)
		for _, now := range []int{0, 1, -1, math.MaxInt, math.MinInt} {
			wantFor(t, &Book{}, r, now)
			wantFor(t, &Book{}, api.Request{}, now)
			wantCovers(t, &Book{}, r, now, p.From == p.URL.Origin)
			r.Method = "GET"
			wantCovers(t, &Book{}, r, now, true)
			r.Method = "PUT"
			b := &Book{}
			b.Put(nil, now)
			wantList(t, b)
		}
		wantForget(t, &Book{}, r, 0)
		wantSweep(t, &Book{}, p.From, 0)
		var b Book
		b.Put([]api.Pass{p}, p.Until-1)
		wantList(t, &b, p)
		c := (&Book{}).Copy()
		c.Put([]api.Pass{p}, p.Until-1)
		wantList(t, c, p)
	}
}

// TestPutNone: just what is over is gone.
func TestPutNone(t *testing.T) {
	l := methods("a", "b", "c")
	l[1].Until = 5
	for _, none := range [][]api.Pass{nil, {}} {
		for now, left := range map[int][]api.Pass{0: l, 4: l, 5: {l[0], l[2]}, 9: {l[0], l[2]}, 10: nil, 11: nil, -7: l, math.MinInt: l, math.MaxInt: nil} {
			b := bookOf(l...)
			b.Put(none, now)
			wantList(t, b, left...)
		}
	}
}

// TestOrder: passes stand in the order in which they came, whatever they are, in one call and one by one.
func TestOrder(t *testing.T) {
	l := append(methods("z", "a", "*", "", "A"), heads("z", "\xff", "*")...)
	l = append(l, others(base())...)
	l = append(l, api.Pass{Until: 1}, until(base(), math.MaxInt))
	wantList(t, bookOf(l...), l...)
	b := &Book{}
	for i, p := range l {
		b.Put([]api.Pass{p}, 0)
		wantList(t, b, l[:i+1]...)
	}
	// Asking for them changes nothing.
	wantList(t, b, l...)
}

// TestPutAgain: the same one counts once, and is the last one then; what it was put with last is what it is.
func TestPutAgain(t *testing.T) {
	l := methods("a", "b", "c")
	for i, want := range []string{"bca", "acb", "abc"} {
		for _, time := range []int{10, 1, 9, 11, math.MaxInt} {
			p := until(l[i], time)
			b := bookOf(l...)
			b.Put([]api.Pass{p}, 0)
			wantList(t, b, reordered(want, p)...)
			b.Put([]api.Pass{p}, 0)
			wantList(t, b, reordered(want, p)...)
			b.Put([]api.Pass{l[i], p, p}, 0)
			wantList(t, b, reordered(want, p)...)
			wantList(t, bookOf(append(slices.Clone(l), p)...), reordered(want, p)...)
			wantList(t, bookOf(append([]api.Pass{p}, l...)...), l...)
		}
	}
	for _, time := range []int{10, 1, 9, 11} {
		p := until(base(), time)
		wantList(t, bookOf(base(), p), p)
		wantList(t, bookOf(base(), base(), p, p), p)
		b := bookOf(base())
		b.Put([]api.Pass{p}, 0)
		wantList(t, b, p)
	}
}

// reordered are passes of methods, a letter each; p is the one of its method.
func reordered(order string, p api.Pass) []api.Pass {
	l := methods(strings.Split(order, "")...)
	for i := range l {
		if l[i].Method == p.Method {
			l[i] = p
		}
	}
	return l
}

// TestPutOther: one that differs in a single other field is another one.
func TestPutOther(t *testing.T) {
	for _, p := range others(base()) {
		wantList(t, bookOf(base(), p), base(), p)
		wantList(t, bookOf(p, base()), p, base())
		wantList(t, bookOf(base(), p, base()), p, base())
		b := bookOf(base())
		b.Put([]api.Pass{until(p, 7)}, 0)
		wantList(t, b, base(), until(p, 7))
		b.Put([]api.Pass{until(base(), 8)}, 0)
		wantList(t, b, until(p, 7), until(base(), 8))
		b.Put([]api.Pass{until(p, 0)}, 0)
		wantList(t, b, until(base(), 8))
	}
}

// TestPutTime: whose Until is above now counts, any numbers.
func TestPutTime(t *testing.T) {
	for _, now := range []int{0, 1, 10, -1, 1 << 40, 1<<40 + 1, math.MaxInt - 1, math.MinInt + 1} {
		l := methods("below", "now", "above", "far")
		l[0].Until, l[1].Until, l[2].Until, l[3].Until = now-1, now, now+1, math.MaxInt
		b := &Book{}
		b.Put(l, now)
		wantList(t, b, l[2:]...)
		for i, p := range l {
			b := &Book{}
			b.Put([]api.Pass{p}, now)
			wantList(t, b, l[max(i, 2):max(i+1, 2)]...)
		}
		// In a book that has them already.
		b = &Book{}
		b.Put(l, math.MinInt)
		kept := slices.Clone(l)
		if now == math.MinInt+1 {
			kept = kept[1:]
		}
		wantList(t, b, kept...)
		b.Put(nil, now)
		wantList(t, b, l[2:]...)
	}
	least := until(base(), math.MinInt)
	b := &Book{}
	b.Put([]api.Pass{least}, math.MinInt)
	wantList(t, b)
	b.Put([]api.Pass{until(base(), math.MaxInt)}, math.MaxInt)
	wantList(t, b)
}

// TestPutOver: some are over already, others stand ahead, between and behind.
func TestPutOver(t *testing.T) {
	l := methods("a", "b", "c", "d", "e", "f")
	for over := range 1 << 6 {
		row := slices.Clone(l)
		var left []api.Pass
		for i := range row {
			if over>>i&1 == 1 {
				row[i].Until = 5
			} else {
				left = append(left, row[i])
			}
		}
		b := &Book{}
		b.Put(row, 5)
		wantList(t, b, left...)
		b = bookOf(row[:3]...)
		b.Put(row[3:], 5)
		wantList(t, b, left...)
	}
}

// TestPutOverInPlace: one that is over takes the place of one that counts, and both are gone.
func TestPutOverInPlace(t *testing.T) {
	l := methods("a", "b", "c")
	for i, left := range []string{"b c", "a c", "a b"} {
		for _, time := range []int{5, 4, -1} {
			b := bookOf(l...)
			b.Put([]api.Pass{until(l[i], time)}, 5)
			wantList(t, b, methods(strings.Fields(left)...)...)
			b = &Book{}
			b.Put(append(slices.Clone(l), until(l[i], time)), 5)
			wantList(t, b, methods(strings.Fields(left)...)...)
		}
		// The other way round it counts.
		b := bookOf(until(l[i], 3))
		b.Put([]api.Pass{until(l[i], 3), l[i]}, 5)
		wantList(t, b, l[i])
	}
}

// TestPutMany: of more than 32 the first ones are gone, in one call and one by one.
func TestPutMany(t *testing.T) {
	for _, n := range []int{31, 32, 33, 34, 40, 64, 65, 100} {
		l := many(0, n)
		left := l[max(0, n-32):]
		wantList(t, bookOf(l...), left...)
		b := &Book{}
		for i, p := range l {
			b.Put([]api.Pass{p}, 0)
			wantList(t, b, l[max(0, i-31):i+1]...)
		}
		for cut := range n {
			b := bookOf(l[:cut]...)
			b.Put(l[cut:], 0)
			wantList(t, b, left...)
		}
	}
	if 4*api.MaxEntries != 32 {
		t.Errorf("MaxEntries = %d", api.MaxEntries)
	}
}

// TestPutAgainInFull: one in the place of another: none has to go.
func TestPutAgainInFull(t *testing.T) {
	l := many(0, 32)
	for i, p := range l {
		b := bookOf(l...)
		b.Put([]api.Pass{until(p, 7)}, 0)
		wantList(t, b, append(slices.Delete(slices.Clone(l), i, i+1), until(p, 7))...)
		b.Put(many(32, 33), 0)
		left := append(slices.Delete(slices.Clone(l), i, i+1), until(p, 7))
		wantList(t, b, append(left[1:], many(32, 33)...)...)
	}
	b := bookOf(l...)
	b.Put(l, 0)
	wantList(t, b, l...)
}

// TestPutOverInFull: what is over goes ahead of the first ones.
func TestPutOverInFull(t *testing.T) {
	l := many(0, 32)
	for i := range l {
		row := slices.Clone(l)
		row[i].Until = 5
		b := &Book{}
		b.Put(row, 4)
		wantList(t, b, row...)
		b.Put(many(32, 33), 5)
		wantList(t, b, append(slices.Delete(slices.Clone(l), i, i+1), many(32, 33)...)...)
	}
	// Many that are over push none out.
	var over []api.Pass
	for _, p := range many(100, 200) {
		over = append(over, until(p, 5))
	}
	b := bookOf(l...)
	b.Put(over, 5)
	wantList(t, b, l...)
	b.Put(append(slices.Clone(over), many(32, 33)...), 5)
	wantList(t, b, many(1, 33)...)
	b.Put(append(many(33, 34), over...), 5)
	wantList(t, b, many(2, 34)...)
}

// TestPutAllAhead: all of a list are put ahead of what goes: one that is over in the end has pushed none out.
func TestPutAllAhead(t *testing.T) {
	l, p := many(0, 32), many(32, 33)[0]
	b := bookOf(l...)
	b.Put([]api.Pass{p, until(p, 5)}, 5)
	wantList(t, b, l...)
	b.Put([]api.Pass{p, l[0]}, 5)
	wantList(t, b, append(slices.Clone(l[2:]), p, l[0])...)
	b = bookOf(l...)
	b.Put([]api.Pass{l[0], p}, 5)
	wantList(t, b, append(slices.Clone(l[2:]), l[0], p)...)
}

// TestPutVeryMany: a long list is no matter.
func TestPutVeryMany(t *testing.T) {
	const n = 200_000
	l := many(0, n)
	wantList(t, bookOf(l...), l[n-32:]...)
	for i := range l {
		if i >= 16 {
			l[i].Until = 0
		}
	}
	wantList(t, bookOf(l...), l[:16]...)
	wantList(t, bookOf(slices.Repeat([]api.Pass{base(), l[0]}, n)...), base(), l[0])
	b := bookOf(append(many(0, n), l...)...)
	wantList(t, b, l[:16]...)
	if n := cap(b.passes); n > 64 {
		t.Errorf("room for %d is kept", n)
	}
}

// change is a call that changes a book in which full was.
type change struct {
	name string
	do   func(*Book)
}

func full() *Book {
	return bookOf(append(many(0, 6), withCreds(base(), true), until(along(originC, originB), 5), along(originB, originC))...)
}

func changes() []change {
	return []change{
		{"Put", func(b *Book) { b.Put(methods("new"), 0) }},
		{"Put of none", func(b *Book) { b.Put(nil, 5) }},
		{"Put again", func(b *Book) { b.Put([]api.Pass{until(many(3, 4)[0], 99)}, 0) }},
		{"Put of many", func(b *Book) { b.Put(many(40, 80), 0) }},
		{"Put of all over", func(b *Book) { b.Put(nil, 10) }},
		{"Forget", func(b *Book) { b.Forget(requestOf(base())) }},
		{"Forget of one", func(b *Book) { b.Forget(requestOf(along(originC, originB))) }},
		{"Forget of none", func(b *Book) { b.Forget(api.Request{}) }},
		{"Sweep", func(b *Book) { b.Sweep(originC) }},
		{"Sweep of all", func(b *Book) { b.Sweep(originB) }},
		{"List written over", func(b *Book) { spoil(b.List()) }},
		{"For written over", func(b *Book) { spoil(b.For(requestOf(base()), 0)) }},
		{"Copy changed", func(b *Book) { c := b.Copy(); c.Put(methods("new"), 5); c.Sweep(originC) }},
		{"Covers", func(b *Book) { b.Covers(requestOf(base()), 0) }},
	}
}

func spoil(l []api.Pass) {
	l = l[:cap(l)]
	for i := range l {
		l[i] = api.Pass{Method: "spoilt", Until: math.MaxInt}
	}
}

// TestCopy: one that has the same; each call on the one leaves the other as it was.
func TestCopy(t *testing.T) {
	all := tellAll(full().List())
	for _, c := range changes() {
		b := full()
		d := b.Copy()
		same(t, "Copy", tellAll(d.List()), all)
		c.do(b)
		same(t, c.name+" on the first one", tellAll(d.List()), all)
		b = full()
		d = b.Copy()
		c.do(d)
		same(t, c.name+" on the copy", tellAll(b.List()), all)
		// Each two of them, the one here and the other there, are as if each had been alone.
		for _, other := range changes() {
			b = full()
			d = b.Copy()
			c.do(b)
			other.do(d)
			alone, second := full(), full()
			c.do(alone)
			other.do(second)
			same(t, c.name+", "+other.name, tellAll(b.List()), tellAll(alone.List()))
			same(t, c.name+", "+other.name, tellAll(d.List()), tellAll(second.List()))
		}
	}
}

// TestWrittenOver: what was put, and what came out, may be written over: the book has what it had.
func TestWrittenOver(t *testing.T) {
	l := append(many(0, 3), base())
	b := bookOf(l...)
	c := b.Copy()
	spoil(l)
	for _, d := range []*Book{b, c} {
		spoil(d.List())
		spoil(d.For(requestOf(base()), 0))
		wantList(t, d, append(many(0, 3), base())...)
		wantFor(t, d, requestOf(base()), 0, append(many(0, 3), base())...)
	}
}

// TestNothingWritten: neither a list that is handed in, nor what stands behind its length.
func TestNothingWritten(t *testing.T) {
	l := append(many(0, 40), methods("behind", "behind")...)
	l[3].Until = 0
	l[7] = l[5]
	before := tellAll(l)
	b := &Book{}
	for range 3 {
		b.Put(l[:40], 0)
		b.Put(l[:2], 5)
		b.Put(l[2:4:4], 5)
		b.Forget(requestOf(base()))
	}
	r := requestOf(base())
	r.Heads = []api.Param{{Name: "X-B"}, {Name: "X-A"}, {Name: "Behind"}}[:2]
	b.Put(heads("x-a", "x-b"), 0)
	b.Covers(r, 0)
	b.For(r, 0)
	same(t, "written into", tellAll(l), before)
	same(t, "written into", fmt.Sprint(r.Heads[:3]), "[{X-B } {X-A } {Behind }]")
}

// TestMemory: what comes out shares nothing with what was handed in, with the book, or with what else comes out.
func TestMemory(t *testing.T) {
	p := api.Pass{
		From:   api.Origin{Host: strings.Clone("from.test")},
		URL:    api.URL{Origin: api.Origin{Host: strings.Clone("to.test")}, Path: strings.Clone("/path"), Query: strings.Clone("query")},
		Method: strings.Clone("method"), Head: strings.Clone("head"), Until: 10,
	}
	l := []api.Pass{p, until(p, 9), p}
	in := memory(l)
	b := &Book{}
	b.Put(l, 0)
	outs := map[string][]stretch{"List": memory(b.List()), "List again": memory(b.List()), "For": memory(b.For(requestOf(p), 0)), "Copy": memory(b.Copy()), "the book": memory(b)}
	for name, out := range outs {
		apart(t, name+" and what was handed in", out, in)
		for other := range outs {
			if other != name {
				apart(t, name+" and "+other, out, outs[other])
			}
		}
	}
}

// TestNothingKept: of what is gone nothing is kept, behind a row's length neither.
func TestNothingKept(t *testing.T) {
	for _, c := range changes() {
		b := full()
		c.do(b)
		for _, p := range b.passes[len(b.passes):cap(b.passes)] {
			same(t, c.name+": kept", tell(p), tell(api.Pass{}))
		}
	}
}

// TestForWay: of another origin, and of another URL, none counts.
func TestForWay(t *testing.T) {
	l := append(otherWays(base()), base())
	b := bookOf(l...)
	for i, p := range l {
		wantFor(t, b, requestOf(p), 0, p)
		for j, q := range l {
			if i != j {
				wantFor(t, bookOf(p), requestOf(q), 0)
			}
		}
	}
	// Where it comes from is not where it goes to.
	wantFor(t, bookOf(along(originA, originB)), requestOf(along(originB, originA)), 0)
	wantFor(t, bookOf(along(originA, originA), base()), requestOf(along(originA, originA)), 0, along(originA, originA))
	wantFor(t, bookOf(api.Pass{Until: 1}), api.Request{}, 0, api.Pass{Until: 1})
}

// TestForNothingElse: neither partition, nor method, nor headers, nor body of a request matter.
func TestForNothingElse(t *testing.T) {
	l := append(methods("PUT", "*", "", "x"), heads("x-a", "*", "authorization")...)
	b := bookOf(append(slices.Clone(l), otherWays(base())...)...)
	r := requestOf(base())
	for _, method := range []string{"PUT", "GET", "", "a b"} {
		for _, part := range []int{0, 3, -1} {
			r.Part, r.Method, r.Body = part, method, method
			r.Heads = []api.Param{{Name: "X-A", Value: method}}
			wantFor(t, b, r, 0, l...)
		}
	}
}

// TestForWith: with credentials just those that have them, without any.
func TestForWith(t *testing.T) {
	for kinds := range 1 << 5 {
		l := methods("a", "b", "c", "d", "e")
		var with []api.Pass
		for i := range l {
			if kinds>>i&1 == 1 {
				l[i].With = true
				with = append(with, l[i])
			}
		}
		r := requestOf(base())
		r.With = false
		wantFor(t, bookOf(l...), r, 0, l...)
		r.With = true
		wantFor(t, bookOf(l...), r, 0, with...)
	}
}

// TestForTime: one before it, at it, and one behind it; it isn't gone then.
func TestForTime(t *testing.T) {
	for _, time := range []int{10, 1, 0, -5, 1 << 40, math.MaxInt, math.MinInt + 1} {
		p := until(base(), time)
		b := &Book{}
		b.Put([]api.Pass{p}, math.MinInt)
		r := requestOf(p)
		wantFor(t, b, r, time-1, p)
		wantFor(t, b, r, time)
		wantFor(t, b, r, math.MaxInt)
		if time < math.MaxInt {
			wantFor(t, b, r, time+1)
		}
		wantFor(t, b, r, math.MinInt, p)
		wantList(t, b, p)
	}
	l := methods("a", "b", "c")
	l[0].Until, l[1].Until, l[2].Until = 3, 2, 4
	for now, want := range map[int][]api.Pass{1: l, 2: {l[0], l[2]}, 3: {l[2]}, 4: nil} {
		wantFor(t, bookOf(l...), requestOf(base()), now, want...)
	}
}

// TestCoversWithoutNeed: what need not be asked for, whatever the book has.
func TestCoversWithoutNeed(t *testing.T) {
	for _, with := range []bool{false, true} {
		for _, b := range []*Book{{}, bookOf(base()), bookOf(methods("x")...)} {
			r := api.Request{From: originA, URL: api.URL{Origin: originB, Path: "/"}, With: with}
			for _, method := range []string{"GET", "head", "Post"} {
				r.Method = method
				wantCovers(t, b, r, 0, true)
				r.Heads = []api.Param{{Name: "Content-Type", Value: "text/plain"}}
				wantCovers(t, b, r, 0, true)
				r.Heads = nil
			}
			// At home nothing is asked for.
			r.From, r.Method, r.Heads = originB, "PUT", []api.Param{{Name: "Authorization"}}
			wantCovers(t, b, r, 0, true)
		}
		needs := requestOf(withCreds(base(), with))
		wantCovers(t, &Book{}, needs, 0, false)
		needs.Method, needs.Heads = "GET", []api.Param{{Name: "X-A"}}
		wantCovers(t, &Book{}, needs, 0, false)
	}
}

// TestCovers: a request that must be asked for, of a method and a header.
func TestCovers(t *testing.T) {
	method, head, every := base(), heads("x-a")[0], append(methods("*"), heads("*")...)
	for _, c := range []struct {
		name          string
		l             []api.Pass
		without, with bool
	}{
		{"none", nil, false, false},
		{"its method alone", []api.Pass{method}, false, false},
		{"its headers alone", []api.Pass{head}, false, false},
		{"both", []api.Pass{method, head}, true, false},
		{"both, the other way round", []api.Pass{head, method}, true, false},
		{"both, with credentials", []api.Pass{withCreds(head, true), withCreds(method, true)}, true, true},
		{"both, the one with credentials", []api.Pass{head, withCreds(method, true)}, true, false},
		{"both, the other one with credentials", []api.Pass{withCreds(head, true), method}, true, false},
		{"both, each way", []api.Pass{head, withCreds(head, true), withCreds(method, true), method}, true, true},
		{"all", every, true, false},
		{"all, with credentials", []api.Pass{withCreds(every[0], true), withCreds(every[1], true)}, true, false},
		{"all over", []api.Pass{until(method, 5), until(head, 5)}, false, false},
		{"its method over", []api.Pass{until(method, 5), head}, false, false},
		{"its headers over", []api.Pass{method, until(head, 4)}, false, false},
		{"none over", []api.Pass{until(method, 6), until(head, 6)}, true, false},
		{"another method", append(methods("patch"), head), false, false},
		{"another header", append(heads("x-b"), method), false, false},
	} {
		for _, with := range []bool{false, true} {
			r := requestOf(withCreds(base(), with))
			r.Method, r.Heads = "put", []api.Param{{Name: "X-A", Value: "v"}}
			want := with && c.with || !with && c.without
			b := &Book{}
			b.Put(c.l, 0)
			wantCovers(t, b, r, 5, want)
			if want {
				wantCovers(t, b, r, 9, !slices.ContainsFunc(c.l, func(p api.Pass) bool { return p.Until < 10 }))
				wantCovers(t, b, r, 10, false)
			}
			// The same ones of another way.
			for _, p := range otherWays(base()) {
				q := r
				q.From, q.URL = p.From, p.URL
				wantCovers(t, b, q, 5, false)
			}
			if t.Failed() {
				t.Fatalf("passes of %s; with %v", c.name, with)
			}
		}
	}
}

// TestForget: all of a way, however they are, and none of another one.
func TestForget(t *testing.T) {
	rest := otherWays(base())
	mine := []api.Pass{base(), withCreds(base(), true), heads("x-a")[0], withCreds(heads("*")[0], true), until(methods("patch")[0], 3)}
	for _, with := range []bool{false, true} {
		r := api.Request{Part: -1, From: base().From, URL: base().URL, With: with}
		for n := range len(mine) + 1 {
			b := bookOf(append(slices.Clone(mine[:n]), rest...)...)
			wantForget(t, b, r, n, rest...)
			wantForget(t, b, r, 0, rest...)
			b = bookOf(append(slices.Clone(rest), mine[:n]...)...)
			wantForget(t, b, r, n, rest...)
			wantFor(t, b, r, 0)
			// Among each other.
			var mixed []api.Pass
			for i, p := range rest {
				mixed = append(mixed, p)
				if i < n {
					mixed = append(mixed, mine[i])
				}
			}
			wantForget(t, bookOf(mixed...), r, n, rest...)
		}
		wantForget(t, bookOf(mine...), r, len(mine))
		for i, p := range rest {
			q := requestOf(p)
			q.With = with
			wantForget(t, bookOf(mine...), q, 0, mine...)
			wantForget(t, bookOf(rest...), q, 1, slices.Delete(slices.Clone(rest), i, i+1)...)
		}
	}
	// Those beside it of just the same From, and of just the same URL.
	from, to := along(originA, originC), along(originC, originB)
	wantForget(t, bookOf(from, base(), to), requestOf(base()), 1, from, to)
	// What is over, but not gone yet, counts, too.
	wantForget(t, bookOf(until(base(), 1)), requestOf(base()), 1)
	wantForget(t, bookOf(api.Pass{Until: 1}, base()), api.Request{}, 1, base())
}

// TestSweep: all that comes from an origin, goes to it, or both.
func TestSweep(t *testing.T) {
	ab, ba, aa, bb := along(originA, originB), along(originB, originA), along(originA, originA), along(originB, originB)
	bc, cb, ac := along(originB, originC), along(originC, originB), along(originA, originC)
	l := []api.Pass{ab, bb, aa, bc, ba, cb, ac}
	wantSweep(t, bookOf(l...), originA, 4, bb, bc, cb)
	wantSweep(t, bookOf(l...), originB, 5, aa, ac)
	wantSweep(t, bookOf(l...), originC, 3, ab, bb, aa, ba)
	wantSweep(t, bookOf(ab), originA, 1)
	wantSweep(t, bookOf(ba), originA, 1)
	wantSweep(t, bookOf(aa), originA, 1)
	wantSweep(t, bookOf(bb), originA, 0, bb)
	wantSweep(t, bookOf(), originA, 0)
	b := bookOf(l...)
	for _, o := range []api.Origin{{}, {Secure: false, Host: "a.test", Port: 443}, {Secure: true, Host: "A.test", Port: 443}, {Secure: true, Host: "a.test", Port: 444}, {Secure: true, Host: "d.test", Port: 443}} {
		wantSweep(t, b, o, 0, l...)
		both := append([]api.Pass{along(o, originA)}, append(slices.Clone(l), along(originA, o), along(o, o))...)
		wantSweep(t, bookOf(both...), o, 3, l...)
	}
	wantSweep(t, b, originA, 4, bb, bc, cb)
	wantSweep(t, b, originA, 0, bb, bc, cb)
	wantSweep(t, b, originC, 2, bb)
	wantSweep(t, b, originB, 1)
	wantSweep(t, b, originB, 0)
	// However they are: of all ways of an origin, over or not.
	many := append(many(0, 20), until(base(), 1), withCreds(base(), true))
	wantSweep(t, bookOf(many...), originA, 22)
	wantSweep(t, bookOf(many...), originB, 22)
	wantSweep(t, bookOf(many...), originC, 0, many...)
}

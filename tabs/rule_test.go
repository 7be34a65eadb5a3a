package tabs

import (
	"fmt"
	"math/rand"
	"reflect"
	"slices"
	"strings"
	"testing"

	"gatepost/api"
	"gatepost/world"
)

// ruleTabs are tabs told by other means: no world is read, and no cell is taken or has a number. An operation is done, when it ends, in the one world that there is, where all was done that ended before it; it fails if one was that changes, and has a cell of its own.
type ruleTabs struct {
	works map[int]*work
	world *world.World
	done  []api.Op
	story []Event
	steps int
}

// work is an operation of a tab that isn't Idle.
type work struct {
	op          api.Op
	from, stage int
	seen, fails int
}

func newRule() *ruleTabs { return &ruleTabs{works: map[int]*work{}, world: world.New()} }

func (r *ruleTabs) Does(n int) int {
	if w := r.works[n]; w != nil {
		return w.stage
	}
	return 0
}

func (r *ruleTabs) tell() string { return tellDoes(r) + tellStory(r.story) + tellWorld(r.world) }

func (r *ruleTabs) Begin(n int, o api.Op) api.Errno {
	if n < 0 || n > 5 {
		return api.ErrRange
	}
	if r.works[n] != nil {
		return api.ErrState
	}
	r.steps++
	o.Req.Heads = slices.Clone(o.Req.Heads)
	r.works[n] = &work{op: o, from: r.steps, stage: 1}
	return api.OK
}

// missing is what Cancel and Step answer of a tab that isn't there or does nothing.
func (r *ruleTabs) missing(n int) api.Errno {
	if n < 0 || n > 5 {
		return api.ErrRange
	}
	if r.works[n] == nil {
		return api.ErrNone
	}
	r.steps++
	return api.OK
}

func (r *ruleTabs) Cancel(n int) api.Errno {
	e := r.missing(n)
	delete(r.works, n)
	return e
}

func (r *ruleTabs) Step(n int) (reply api.Reply, ended bool, e api.Errno) {
	if e = r.missing(n); e != api.OK {
		return
	}
	w := r.works[n]
	switch w.stage {
	case 1:
		w.seen = len(r.done)
	case 3:
		isInTheWay := func(o api.Op) bool { return inTheWay(o, w.op) }
		if !slices.ContainsFunc(r.done[w.seen:], isInTheWay) {
			reply = r.world.Do(w.op)
			r.done = append(r.done, w.op)
		} else if w.fails++; w.fails < 4 {
			w.stage = 1
			return
		} else {
			reply.What = api.Busy
		}
		r.story = append(r.story, Event{n, w.op, reply, w.from, r.steps})
		delete(r.works, n)
		return reply, true, e
	}
	w.stage++
	return
}

// pair is tabs, and what the rule tells of them.
type pair struct {
	tabs *Tabs
	rule *ruleTabs
}

func newPair() pair { return pair{New(), newRule()} }

// compare holds all that there is against each other.
func (p pair) compare(t *testing.T) {
	t.Helper()
	same(t, "all that there is", tell(p.tabs), p.rule.tell())
}

func (p pair) begin(t *testing.T, n int, o api.Op) {
	t.Helper()
	wantError(t, fmt.Sprintf("Begin(%d, %+v)", n, o), p.tabs.Begin(n, o), p.rule.Begin(n, o))
	p.wantDoes(t, n)
}

func (p pair) cancel(t *testing.T, n int) {
	t.Helper()
	wantError(t, fmt.Sprintf("Cancel(%d)", n), p.tabs.Cancel(n), p.rule.Cancel(n))
	p.wantDoes(t, n)
}

func (p pair) step(t *testing.T, n int) bool {
	t.Helper()
	got, isEnd, err := p.tabs.Step(n)
	want, ended, e := p.rule.Step(n)
	if got != want || isEnd != ended {
		t.Errorf("Step(%d) = %+v, %v; want %+v, %v", n, got, isEnd, want, ended)
	}
	wantError(t, fmt.Sprintf("Step(%d)", n), err, e)
	p.wantDoes(t, n)
	return ended
}

func (p pair) wantDoes(t *testing.T, n int) {
	t.Helper()
	wantDoes(t, p.tabs, n, p.rule.Does(n))
}

// do does an operation at once.
func (p pair) do(t *testing.T, n int, o api.Op) {
	t.Helper()
	p.begin(t, n, o)
	for !p.step(t, n) && !t.Failed() {
	}
}

// draw is one of some things.
func draw[T any](below func(int) int, l ...T) T { return l[below(len(l))] }

// drawnOp is an operation; numbers below those that are asked for make it. Most are of one partition and origin.
func drawnOp(below func(int) int) api.Op {
	part := draw(below, 0, 0, 0, 1, 3)
	o := draw(below, append(mixed(part), clears(part)[:3]...)...)
	switch below(12) {
	case 0:
		o = draw(below, odds(part)...)
	case 1:
		o = draw(below, clears(part)...)
	case 2, 3:
		o.Req.URL.Path = draw(below, "/", "/a/", "/c")
	case 4:
		o.Req.With = true
		o.Req.Heads = []api.Param{{Name: draw(below, "X-A", "Authorization"), Value: "v"}}
	case 5:
		o.Cert, o.N = below(9), below(9)
	}
	return o
}

// drawnMoves are moves of tabs, of which some do little, and others much; it answers how many ended with which answer.
func drawnMoves(t *testing.T, below func(int) int, goesOn func() bool, most int) (answers [api.Odd + 1]int) {
	p := newPair()
	for i := 0; goesOn() && !t.Failed(); i++ {
		n := min(below(most), below(most))
		switch k := below(40); {
		case k == 0:
			p.step(t, draw(below, nowhere()...))
			p.cancel(t, draw(below, nowhere()...))
			p.begin(t, draw(below, nowhere()...), drawnOp(below))
		case k == 1:
			p.cancel(t, n)
		case k < 4 || p.rule.Does(n) == 0 && k > 5:
			p.begin(t, n, drawnOp(below))
		default:
			p.step(t, n)
		}
		if i%8 == 0 {
			p.compare(t)
		}
	}
	p.compare(t)
	wantWhole(t, p.tabs)
	for _, e := range p.tabs.Story() {
		answers[e.Reply.What]++
	}
	wantEnds(t, p)
	return answers
}

// wantWhole: all answers, but Busy, are those of operations done at once, in the order in which they ended, and so is the world.
func wantWhole(t *testing.T, s *Tabs) {
	t.Helper()
	w := world.New()
	to := 0
	for i, e := range s.Story() {
		if e.Reply != (api.Reply{What: api.Busy}) {
			if r := w.Do(e.Op); r != e.Reply {
				t.Errorf("Event %d: %+v; done at once: %+v", i, e, r)
			}
		}
		if e.From < 1 || e.To < e.From+3 || e.To <= to {
			t.Errorf("Event %d: %+v, behind step %d", i, e, to)
		}
		to = e.To
	}
	same(t, "the world, of what was done one behind the other", tellWorld(s.World()), tellWorld(w))
}

// wantEnds: whoever is alone ends by three steps behind its next failure, if it may fail at all.
func wantEnds(t *testing.T, p pair) {
	t.Helper()
	for n := range api.MaxTabs {
		left := map[int]int{Idle: 0, Begun: 3, Read: 5, Worked: 4}[p.rule.Does(n)]
		for p.rule.Does(n) != Idle {
			p.step(t, n)
			if left--; left < 0 {
				t.Errorf("tab %d doesn't end", n)
				return
			}
		}
	}
	p.compare(t)
	wantWhole(t, p.tabs)
}

// TestAgainstRule: many moves of few and of all tabs.
func TestAgainstRule(t *testing.T) {
	die := rand.New(rand.NewSource(12))
	var answers [api.Odd + 1]int
	for i := range 240 {
		left := 300
		for what, n := range drawnMoves(t, die.Intn, func() bool { left--; return left > 0 }, 1+i%api.MaxTabs) {
			answers[what] += n
		}
		if t.Failed() {
			return
		}
	}
	for what := api.Done; what <= api.Odd; what++ {
		if answers[what] < 50 {
			t.Errorf("answer %d was answered %d times", what, answers[what])
		}
	}
}

// TestShortRows: every row of six moves of two tabs, behind their Begins, for some operations that are in each other's way.
func TestShortRows(t *testing.T) {
	for _, ops := range [][2]api.Op{
		{opOf(api.Choose, cert(1)), opOf(api.Pick)},
		{opOf(api.Choose, cert(1)), opOf(api.Choose, cert(2))},
		{opOf(api.Tick, later(2)), opOf(api.Allowed, told(allowAny))},
	} {
		rows(nil, 6, func(row []int) {
			p := newPair()
			p.begin(t, 0, ops[0])
			p.begin(t, 1, ops[1])
			for _, move := range row {
				[]func(){
					func() { p.step(t, 0) },
					func() { p.step(t, 1) },
					func() { p.begin(t, 0, ops[0]) },
					func() { p.begin(t, 1, ops[1]) },
					func() { p.cancel(t, 1) },
				}[move]()
			}
			wantEnds(t, p)
			if t.Failed() {
				t.Fatalf("%v", row)
			}
		})
	}
}

// rows visits every row of so many moves more.
func rows(row []int, left int, visit func([]int)) {
	if left == 0 {
		visit(row)
		return
	}
	for move := range 5 {
		rows(append(row, move), left-1, visit)
	}
}

// TestNobodyForNothing: as often as an operation fails another one has ended that changed a cell of its own; so one of those that go on together always ends.
func TestNobodyForNothing(t *testing.T) {
	die := rand.New(rand.NewSource(6))
	for range 40 {
		s := New()
		var ops [api.MaxTabs]api.Op
		var own [api.MaxTabs]int
		ways := make([]int, api.MaxTabs)
		for range 600 {
			n := die.Intn(api.MaxTabs)
			before := s.Does(n)
			if before == Idle {
				ops[n], own[n] = drawnOp(die.Intn), 0
				s.Begin(n, ops[n])
				continue
			}
			r, ended, _ := s.Step(n)
			if own[n]++; own[n] > 3*(api.MaxTries+1) {
				t.Fatalf("%+v goes on and on", ops[n])
			}
			failed := before == Worked && (!ended || r.What == api.Busy)
			if before == Begun {
				ways[n] = 0
			} else if failed != (before == Worked && ways[n] > 0) {
				t.Fatalf("%+v: %+v, %v; %d were in its way", ops[n], r, ended, ways[n])
			}
			if ended && !failed {
				for other := range ways {
					if inTheWay(ops[n], ops[other]) {
						ways[other]++
					}
				}
			}
		}
		wantWhole(t, s)
	}
}

func FuzzAgainstRule(f *testing.F) {
	f.Add([]byte("abcdefghijklmnopqrstuvwxyz"))
	f.Add([]byte("\x00\x01\x02\x03\x04\x05\x06\x07\x08\x09\x20\x21\x22\x23\x24\x25\x26\x27"))
	f.Fuzz(func(t *testing.T, l []byte) {
		drawnMoves(t, func(most int) int {
			if len(l) == 0 {
				return 0
			}
			n := int(l[0]) % most
			l = l[1:]
			return n
		}, func() bool { return len(l) > 0 }, api.MaxTabs)
	})
}

// stretch is a piece of memory.
type stretch struct{ from, to uintptr }

// memory is where the texts and lists of things lie, with what stands behind a list's length.
func memory(things ...any) (l []stretch) {
	for _, x := range things {
		l = walk(l, reflect.ValueOf(x))
	}
	return l
}

func walk(l []stretch, v reflect.Value) []stretch {
	switch v.Kind() {
	case reflect.String:
		if v.Len() > 0 {
			from := uintptr(reflect.ValueOf(v.String()).UnsafePointer())
			l = append(l, stretch{from, from + uintptr(v.Len())})
		}
	case reflect.Slice:
		if v.Cap() > 0 {
			from := v.Pointer()
			l = append(l, stretch{from, from + uintptr(v.Cap())*v.Type().Elem().Size()})
		}
		for i := range v.Len() {
			l = walk(l, v.Index(i))
		}
	case reflect.Array:
		for i := range v.Len() {
			l = walk(l, v.Index(i))
		}
	case reflect.Struct:
		for i := range v.NumField() {
			l = walk(l, v.Field(i))
		}
	case reflect.Pointer:
		l = walk(l, v.Elem())
	}
	return l
}

// apart: no piece of memory of the one is one of the other.
func apart(t *testing.T, what string, one, other []stretch) {
	t.Helper()
	if len(one) == 0 || len(other) == 0 {
		t.Errorf("%s: there is nothing to be held apart", what)
	}
	for _, x := range one {
		for _, y := range other {
			if x.from < y.to && y.from < x.to {
				t.Errorf("%s: memory is shared", what)
				return
			}
		}
	}
}

// freshTexts is an operation with texts of its own, each of them told.
func freshTexts(what int, text string) api.Op {
	clone := strings.Clone
	origin := func(host string) api.Origin { return api.Origin{Secure: true, Host: clone(host), Port: 443} }
	return api.Op{
		What:   what,
		Text:   clone(text),
		Creds:  api.Creds{User: clone("user"), Pass: clone("pass")},
		Cnonce: clone("cnonce"),
		Cert:   1,
		Req: api.Request{
			From:   origin("from.test"),
			URL:    api.URL{Origin: origin("to.test"), Path: clone("/path"), Query: clone("query")},
			Method: clone("PATCH"),
			Heads:  []api.Param{{Name: clone("X-Name"), Value: clone("value")}},
			Body:   clone("body"),
		},
	}
}

// TestMemory: what comes out shares nothing with what was handed in, with the tabs, or with what else comes out.
func TestMemory(t *testing.T) {
	ops := []api.Op{
		freshTexts(api.Refused, `Digest realm=realm, nonce=nonce, opaque=opaque, qop=auth, domain="/path /other"`),
		freshTexts(api.Answered, "text"),
		freshTexts(api.Attach, "text"),
		freshTexts(api.Allowed, "Access-Control-Allow-Origin: *\nAccess-Control-Allow-Methods: PATCH\nAccess-Control-Allow-Headers: X-Name"),
		freshTexts(api.Choose, "text"),
	}
	s := New()
	var replies []api.Reply
	for n, o := range ops {
		replies = append(replies, do(t, s, n, o))
		if what := replies[n].What; what != api.Done && what != api.Prompt {
			t.Fatalf("%+v: %+v", o, replies[n])
		}
	}
	bring(t, s, 0, ops[2], Worked)
	bring(t, s, 1, ops[0], Read)
	bring(t, s, 2, ops[3], Begun)
	bring(t, s, 3, ops[4], Worked)
	do(t, s, 4, ops[4])
	step(t, s, 3, Begun)
	outs := map[string][]stretch{
		"the tabs": memory(s), "what was handed in": memory(ops), "what was answered": memory(replies),
		"World": memory(s.World()), "World again": memory(s.World()), "Story": memory(s.Story()), "Story again": memory(s.Story()),
	}
	for name, out := range outs {
		for other := range outs {
			if other != name {
				apart(t, name+" and "+other, out, outs[other])
			}
		}
	}
	// Nor do a Story's Events share anything with each other.
	l := s.Story()
	for i := range l {
		for j := range i {
			apart(t, fmt.Sprintf("Events %d and %d", j, i), memory(l[i]), memory(l[j]))
		}
	}
}

// TestHeadsNotKept: an operation's list is neither kept nor written into, nor is what stands behind its length.
func TestHeadsNotKept(t *testing.T) {
	for does := Begun; does <= Worked; does++ {
		l := []api.Param{{Name: "X-B", Value: "2"}, {Name: "X-A", Value: "1"}, {Name: "Behind"}}
		before := fmt.Sprint(l)
		o := opOf(api.Check)
		o.Req.Heads = l[:2]
		s := New()
		bring(t, s, 0, o, does)
		same(t, "Heads", fmt.Sprint(l), before)
		want := []Event{{Op: opOf(api.Check), Reply: api.Reply{What: api.Yes}, From: 1, To: 4}}
		want[0].Op.Req.Heads = slices.Clone(o.Req.Heads)
		spoil(l, api.Param{Name: "not a word"})
		for next := does + 1; next <= Worked; next++ {
			step(t, s, 0, next)
		}
		wantEnd(t, s, 0, api.Reply{What: api.Yes})
		wantStory(t, s, want...)
	}
}

// TestNothingKept: a tab that is Idle keeps nothing, and one that is Begun again nothing of what it read.
func TestNothingKept(t *testing.T) {
	idle := func(s *Tabs) {
		t.Helper()
		if !reflect.DeepEqual(s.tabs[0], tab{}) {
			t.Errorf("kept: %+v", s.tabs[0])
		}
	}
	for does := Begun; does <= Worked; does++ {
		s := New()
		bring(t, s, 0, freshTexts(api.Attach, "text"), does)
		cancel(t, s, 0)
		idle(s)
	}
	s := New()
	do(t, s, 0, freshTexts(api.Attach, "text"))
	idle(s)
	begin(t, s, 0, opOf(api.Pick))
	fail(t, s, 0, opOf(api.Choose), Begun)
	if x := s.tabs[0]; x.world != nil || x.reply != (api.Reply{}) || x.numbers != (numbers{}) {
		t.Errorf("kept: %+v", x)
	}
	cancel(t, s, 0)
	begin(t, s, 0, opOf(api.Pick))
	busy(t, s, 0, opOf(api.Choose))
	idle(s)
}

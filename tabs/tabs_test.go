package tabs

import (
	"errors"
	"fmt"
	"math"
	"testing"

	"gatepost/api"
	"gatepost/world"
)

var (
	originA = api.Origin{Secure: true, Host: "a.test", Port: 443}
	originB = api.Origin{Secure: true, Host: "b.test", Port: 443}
)

// allowAny is what a server says that allows anything, without credentials.
const allowAny = "Access-Control-Allow-Origin: *\nAccess-Control-Allow-Methods: *\nAccess-Control-Allow-Headers: *"

// nowhere are numbers of tabs that aren't there.
func nowhere() []int {
	return []int{-1, -2, -api.MaxTabs, math.MinInt, api.MaxTabs, api.MaxTabs + 1, 255, 256, math.MaxInt}
}

// change makes an operation another one.
type change func(*api.Op)

// opOf is an operation in partition 0, from a to b's /a/b, that is right.
func opOf(what int, changes ...change) api.Op {
	o := api.Op{What: what, Req: api.Request{From: originA, URL: api.URL{Origin: originB, Path: "/a/b"}, Method: "PUT"}}
	for _, c := range changes {
		c(&o)
	}
	return o
}

func in(part int) change          { return func(o *api.Op) { o.Req.Part = part } }
func to(origin api.Origin) change { return func(o *api.Op) { o.Req.URL.Origin = origin } }
func path(s string) change        { return func(o *api.Op) { o.Req.URL.Path = s } }
func told(s string) change        { return func(o *api.Op) { o.Text = s } }
func cert(n int) change           { return func(o *api.Op) { o.Cert = n } }
func later(n int) change          { return func(o *api.Op) { o.N = n } }
func proxy(o *api.Op)             { o.Proxy = true }
func everything(o *api.Op)        { o.All = true }

func by(user, pass string) change {
	return func(o *api.Op) { o.Creds = api.Creds{User: user, Pass: pass} }
}

// mixed are operations of each kind; done one behind the other they lay down something of each kind.
func mixed(part int) []api.Op {
	return []api.Op{
		opOf(api.Refused, in(part), told("Basic realm=r")),
		opOf(api.Answered, in(part), by("u", "p")),
		opOf(api.Attach, in(part), path("/a/x")),
		opOf(api.Refused, in(part), to(originA), told(`Digest realm=s, nonce=n, qop=auth, opaque=o, domain="/a/ /c"`)),
		opOf(api.Answered, in(part), to(originA), by("v", "q")),
		opOf(api.Attach, in(part), to(originA)),
		opOf(api.Refused, in(part), to(originA), told("Digest realm=s, nonce=m, stale=true")),
		opOf(api.Refused, in(part), proxy, told("Basic realm=t")),
		opOf(api.Allowed, in(part), told(allowAny)),
		opOf(api.Check, in(part)),
		opOf(api.Choose, in(part), cert(2)),
		opOf(api.Choose, in(part), to(originA), cert(1)),
		opOf(api.Pick, in(part)),
		opOf(api.Tick, in(part), later(1)),
	}
}

// clears are operations that take away what mixed laid down.
func clears(part int) []api.Op {
	return []api.Op{
		opOf(api.Logout, in(part), to(originA)),
		opOf(api.Clear, in(part)),
		opOf(api.Allowed, in(part), told("")),
		opOf(api.Clear, in(part), everything),
	}
}

// odds are operations that are Odd by what they are alone, and some that are so by what they say.
func odds(part int) []api.Op {
	return []api.Op{
		{},
		opOf(0, in(part)),
		opOf(api.Tick+1, in(part)),
		opOf(-1, in(part)),
		opOf(api.Tick, in(-1), later(1)),
		opOf(api.Clear, in(api.MaxParts)),
		opOf(api.Attach, in(math.MaxInt)),
		opOf(api.Choose, in(math.MinInt)),
		opOf(api.Check, in(part), path("")),
		opOf(api.Pick, in(part), to(api.Origin{})),
		opOf(api.Refused, in(part), told("Basic realm x")),
		opOf(api.Allowed, in(part), told("a b")),
		opOf(api.Choose, in(part), cert(-1)),
		opOf(api.Tick, in(part), later(-1)),
		opOf(api.Tick, in(part), later(math.MaxInt)),
	}
}

// tellWorld, tellStory, tellDoes and tell are what a test holds against each other: an empty list is one, nil or not.
func tellWorld(w *world.World) string {
	out := fmt.Sprintf("now %d\n", w.Now())
	for part := range api.MaxParts {
		out += fmt.Sprintf("part %d: %+v %+v %+v %+v\n", part, w.Grants(part), w.Waits(part), w.Passes(part), w.Certs(part))
	}
	return out
}

func tellStory(l []Event) (out string) {
	for _, e := range l {
		out += fmt.Sprintf("%+v\n", e)
	}
	return out
}

func tellDoes(s interface{ Does(int) int }) (out string) {
	for n := range api.MaxTabs {
		out += fmt.Sprint(s.Does(n), " ")
	}
	return out + "\n"
}

func tell(s *Tabs) string { return tellDoes(s) + tellStory(s.Story()) + tellWorld(s.World()) }

// same asks whether two texts are the same.
func same(t *testing.T, what, got, want string) {
	t.Helper()
	if got != want {
		t.Errorf("%.600s: %s\nwant: %s", what, got, want)
	}
}

// wantError: just that Errno, without a place.
func wantError(t *testing.T, what string, err error, want api.Errno) {
	t.Helper()
	var at *api.At
	if api.Tell(err) != want || errors.As(err, &at) {
		t.Errorf("%s: %v; want %d", what, err, want)
	}
}

// wantDoes asks what a tab does.
func wantDoes(t *testing.T, s *Tabs, n, want int) {
	t.Helper()
	if got := s.Does(n); got != want {
		t.Errorf("Does(%d) = %d; want %d", n, got, want)
	}
}

// begin begins an operation.
func begin(t *testing.T, s *Tabs, n int, o api.Op) {
	t.Helper()
	wantError(t, fmt.Sprintf("Begin(%d, %+v)", n, o), s.Begin(n, o), api.OK)
	wantDoes(t, s, n, Begun)
}

// cancel cancels one.
func cancel(t *testing.T, s *Tabs, n int) {
	t.Helper()
	wantError(t, fmt.Sprintf("Cancel(%d)", n), s.Cancel(n), api.OK)
	wantDoes(t, s, n, Idle)
}

// step goes on with one that doesn't come to its end by that; the tab does then what is told.
func step(t *testing.T, s *Tabs, n, does int) {
	t.Helper()
	r, ended, err := s.Step(n)
	if r != (api.Reply{}) || ended || err != nil {
		t.Errorf("Step(%d) = %+v, %v, %v; want nothing", n, r, ended, err)
	}
	wantDoes(t, s, n, does)
}

// end goes on with one that comes to its end by that.
func end(t *testing.T, s *Tabs, n int) api.Reply {
	t.Helper()
	r, ended, err := s.Step(n)
	if !ended || err != nil {
		t.Errorf("Step(%d) = %+v, %v, %v; want an end", n, r, ended, err)
	}
	wantDoes(t, s, n, Idle)
	return r
}

// wantEnd asks for what it is answered.
func wantEnd(t *testing.T, s *Tabs, n int, want api.Reply) {
	t.Helper()
	if got := end(t, s, n); got != want {
		t.Errorf("Step(%d) = %+v; want %+v", n, got, want)
	}
}

// bring begins an operation, and steps until the tab does what is told.
func bring(t *testing.T, s *Tabs, n int, o api.Op, does int) {
	t.Helper()
	begin(t, s, n, o)
	for next := Read; next <= does; next++ {
		step(t, s, n, next)
	}
}

// do begins an operation, and ends it by three steps.
func do(t *testing.T, s *Tabs, n int, o api.Op) api.Reply {
	t.Helper()
	bring(t, s, n, o, Worked)
	return end(t, s, n)
}

// full are tabs, all Idle, with a world that has something of each kind in each partition but the last one.
func full(t *testing.T) *Tabs {
	t.Helper()
	s := New()
	for part := range api.MaxParts - 1 {
		for _, o := range mixed(part) {
			do(t, s, part, o)
		}
		for range part {
			do(t, s, 5, opOf(api.Attach, in(part)))
		}
	}
	return s
}

// TestStates: they are counted from 0 on.
func TestStates(t *testing.T) {
	if Idle != 0 || Begun != 1 || Read != 2 || Worked != 3 {
		t.Errorf("%d %d %d %d", Idle, Begun, Read, Worked)
	}
}

// TestNew: as many tabs as may be, all Idle; nothing in the world; nothing came to its end; no step was.
func TestNew(t *testing.T) {
	nothing := "0 0 0 0 0 0 \n" + tellWorld(world.New())
	for n := range 6 {
		s := New()
		same(t, "New", tell(s), nothing)
		if len(s.Story()) != 0 {
			t.Errorf("New has a Story: %+v", s.Story())
		}
		// Each tab is there, and the first step is step 1.
		o := opOf(api.Choose, in(n%4), cert(1))
		wantError(t, "Begin", s.Begin(n, o), api.OK)
		same(t, "one that isn't told anything", tell(New()), nothing)
		for want := Read; want <= Worked; want++ {
			step(t, s, n, want)
		}
		wantEnd(t, s, n, api.Reply{What: api.Done})
		same(t, "Story", tellStory(s.Story()), tellStory([]Event{{Tab: n, Op: o, Reply: api.Reply{What: api.Done}, From: 1, To: 4}}))
	}
}

// TestTwoTabs: what is done to one of two is not in the other one.
func TestTwoTabs(t *testing.T) {
	s, other := New(), New()
	bring(t, s, 0, opOf(api.Tick, later(1)), Worked)
	bring(t, other, 0, opOf(api.Tick, later(2)), Worked)
	do(t, s, 1, opOf(api.Tick, later(5)))
	wantEnd(t, other, 0, api.Reply{What: api.Done})
	step(t, s, 0, Begun)
	if now := [2]int{s.World().Now(), other.World().Now()}; now != [2]int{5, 2} {
		t.Errorf("their times: %v", now)
	}
	same(t, "Story", tellStory(other.Story()), tellStory([]Event{{Op: opOf(api.Tick, later(2)), Reply: api.Reply{What: api.Done}, From: 1, To: 4}}))
}

// TestWorldApart: what is done to a told world isn't in that of the tabs, and the other way round.
func TestWorldApart(t *testing.T) {
	s := full(t)
	before := tell(s)
	w, other := s.World(), s.World()
	same(t, "World", tellWorld(w), tellWorld(other))
	for part := range api.MaxParts {
		for _, o := range append(append(odds(part), mixed(part)...), clears(part)...) {
			w.Do(o)
		}
	}
	w.Take(world.New(), 0, -1)
	same(t, "behind what is done to a told world", tell(s), before)
	// Nor does it count for what goes on.
	if r := do(t, s, 0, opOf(api.Pick)); r != (api.Reply{What: api.Done, Cert: 2}) {
		t.Errorf("Pick: %+v", r)
	}
	for part := range api.MaxParts {
		for _, o := range append(mixed(part), clears(part)...) {
			do(t, s, 1, o)
		}
	}
	if tellWorld(s.World()) == tellWorld(other) {
		t.Errorf("nothing was changed")
	}
	same(t, "a told world, behind what goes on", tellWorld(other), tellWorld(full(t).World()))
}

// TestWorldWritten: what is written into what comes out of a told world is nowhere else.
func TestWorldWritten(t *testing.T) {
	s := full(t)
	before := tell(s)
	for part := range api.MaxParts {
		w := s.World()
		for _, g := range w.Grants(part) {
			g.Paths[0] = "/spoilt"
		}
		clear(w.Grants(part))
		clear(w.Waits(part))
		clear(w.Passes(part))
		clear(w.Certs(part))
	}
	same(t, "behind it", tell(s), before)
}

// TestDoes: of each tab in each of its states, and of one that isn't there.
func TestDoes(t *testing.T) {
	for n := range api.MaxTabs {
		s := New()
		for want, call := range []func(){
			func() {},
			func() { s.Begin(n, opOf(api.Pick)) },
			func() { s.Step(n) },
			func() { s.Step(n) },
		} {
			call()
			for other := range api.MaxTabs {
				if other == n {
					wantDoes(t, s, n, want)
				} else {
					wantDoes(t, s, other, Idle)
				}
			}
			for _, other := range nowhere() {
				wantDoes(t, s, other, Idle)
			}
		}
		s.Step(n)
		wantDoes(t, s, n, Idle)
	}
	// Asking is no step.
	s := New()
	for n := range api.MaxTabs {
		s.Does(n)
		s.Does(n - 100)
		s.World()
		s.Story()
	}
	do(t, s, 3, opOf(api.Pick))
	if e := s.Story()[0]; e.From != 1 || e.To != 4 {
		t.Errorf("%+v", e)
	}
}

// wrong makes all calls that answer an error, of tabs as they are, and holds that nothing is changed.
func wrong(t *testing.T, s *Tabs) {
	t.Helper()
	before := tell(s)
	o := opOf(api.Clear, everything)
	for _, n := range nowhere() {
		_, _, err := s.Step(n)
		wantError(t, fmt.Sprintf("Step(%d)", n), err, api.ErrRange)
		wantError(t, fmt.Sprintf("Begin(%d)", n), s.Begin(n, o), api.ErrRange)
		wantError(t, fmt.Sprintf("Cancel(%d)", n), s.Cancel(n), api.ErrRange)
	}
	for n := range api.MaxTabs {
		if s.Does(n) != Idle {
			wantError(t, fmt.Sprintf("Begin(%d)", n), s.Begin(n, o), api.ErrState)
			continue
		}
		r, ended, err := s.Step(n)
		wantError(t, fmt.Sprintf("Step(%d)", n), err, api.ErrNone)
		if ended || r != (api.Reply{}) {
			t.Errorf("Step(%d) = %+v, %v, %v", n, r, ended, err)
		}
		wantError(t, fmt.Sprintf("Cancel(%d)", n), s.Cancel(n), api.ErrNone)
	}
	same(t, "behind what answers errors", tell(s), before)
}

// TestErrors: of tabs in each of their states; neither what there is nor what comes of it is changed, and no step is counted.
func TestErrors(t *testing.T) {
	play := func(between func(*testing.T, *Tabs)) string {
		s := New()
		between(t, s)
		for i, o := range append(mixed(0), clears(0)...) {
			n := i % api.MaxTabs
			begin(t, s, n, o)
			between(t, s)
			bring(t, s, (n+1)%api.MaxTabs, opOf(api.Tick, later(i)), Worked)
			step(t, s, n, Read)
			between(t, s)
			step(t, s, n, Worked)
			between(t, s)
			end(t, s, n)
			between(t, s)
			// Allowed, Check and Tick stand in its way.
			for s.Does((n+1)%api.MaxTabs) != Idle {
				s.Step((n + 1) % api.MaxTabs)
				between(t, s)
			}
		}
		return tell(s)
	}
	same(t, "with wrong calls between all steps", play(wrong), play(func(*testing.T, *Tabs) {}))
}

// TestAllTabs: each may do something of its own, in its own state.
func TestAllTabs(t *testing.T) {
	s := New()
	for n := range api.MaxTabs {
		bring(t, s, n, opOf(api.Choose, in(n%api.MaxParts), cert(n+1)), 1+n%3)
	}
	same(t, "what they do", tellDoes(s), "1 2 3 1 2 3 \n")
	wrong(t, s)
	for n := range api.MaxTabs {
		cancel(t, s, n)
		wantError(t, "Cancel again", s.Cancel(n), api.ErrNone)
	}
	same(t, "what they do", tellDoes(s), "0 0 0 0 0 0 \n")
	same(t, "the world", tellWorld(s.World()), tellWorld(world.New()))
}

// TestCancel: in each of the three states nothing comes of it, and another operation may be begun behind it.
func TestCancel(t *testing.T) {
	for does := Begun; does <= Worked; does++ {
		for _, o := range append(append(mixed(0), clears(0)...), odds(0)...) {
			s := full(t)
			story, all := s.Story(), tellWorld(s.World())
			bring(t, s, 2, o, does)
			cancel(t, s, 2)
			same(t, "the world", tellWorld(s.World()), all)
			same(t, "Story", tellStory(s.Story()), tellStory(story))
			wrong(t, s)
			next := opOf(api.Choose, in(1), cert(7))
			bring(t, s, 2, next, Worked)
			wantEnd(t, s, 2, api.Reply{What: api.Done})
			w := full(t).World()
			w.Do(next)
			same(t, "the world, behind another one", tellWorld(s.World()), tellWorld(w))
			// The steps up to it, its Begin and the Cancel are counted.
			from := story[len(story)-1].To + does + 2
			story = append(story, Event{Tab: 2, Op: next, Reply: api.Reply{What: api.Done}, From: from, To: from + 3})
			same(t, "Story", tellStory(s.Story()), tellStory(story))
		}
	}
}

// TestCancelOthers: what other tabs do goes on.
func TestCancelOthers(t *testing.T) {
	for does := Begun; does <= Worked; does++ {
		s := New()
		bring(t, s, 0, opOf(api.Choose, cert(1)), does)
		bring(t, s, 1, opOf(api.Choose, cert(2)), does)
		bring(t, s, 2, opOf(api.Pick), does)
		cancel(t, s, 1)
		wantDoes(t, s, 0, does)
		wantDoes(t, s, 2, does)
		for next := does + 1; next <= Worked; next++ {
			step(t, s, 2, next)
			step(t, s, 0, next)
		}
		// It moved no number, so neither is in the way of the other one but by ending.
		wantEnd(t, s, 2, api.Reply{What: api.Prompt})
		wantEnd(t, s, 0, api.Reply{What: api.Done})
		if r := do(t, s, 1, opOf(api.Pick)); r.Cert != 1 {
			t.Errorf("Pick: %+v", r)
		}
	}
}

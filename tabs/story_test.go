package tabs

import (
	"testing"

	"gatepost/api"
)

// wantStory asks for all that ended.
func wantStory(t *testing.T, s *Tabs, want ...Event) {
	t.Helper()
	same(t, "Story", tellStory(s.Story()), tellStory(want))
	if len(s.Story()) != len(want) {
		t.Errorf("%d Events; want %d", len(s.Story()), len(want))
	}
}

// TestStory: each field, in the order in which they ended; the steps of all tabs are counted.
func TestStory(t *testing.T) {
	s := New()
	choose, pick, refused := opOf(api.Choose, cert(3)), opOf(api.Pick, to(originA)), opOf(api.Refused, in(2), told("Basic realm=r"))
	bring(t, s, 4, choose, Read)    // 1, 2
	bring(t, s, 0, pick, Worked)    // 3 to 5
	wantStory(t, s)                 // None has ended.
	bring(t, s, 2, refused, Worked) // 6 to 8
	end(t, s, 2)                    // 9
	first := Event{Tab: 2, Op: refused, Reply: api.Reply{What: api.Prompt}, From: 6, To: 9}
	wantStory(t, s, first)
	begin(t, s, 2, api.Op{}) // 10
	step(t, s, 4, Worked)    // 11
	end(t, s, 4)             // 12
	second := Event{Tab: 4, Op: choose, Reply: api.Reply{What: api.Done}, From: 1, To: 12}
	wantStory(t, s, first, second)
	// A failure is a step; what is begun again began where it began.
	step(t, s, 0, Begun)  // 13
	step(t, s, 0, Read)   // 14
	step(t, s, 2, Read)   // 15
	step(t, s, 0, Worked) // 16
	end(t, s, 0)          // 17
	third := Event{Tab: 0, Op: pick, Reply: api.Reply{What: api.Prompt}, From: 3, To: 17}
	wantStory(t, s, first, second, third)
	step(t, s, 2, Worked) // 18
	end(t, s, 2)          // 19
	wantStory(t, s, first, second, third, Event{Tab: 2, Reply: api.Reply{What: api.Odd}, From: 10, To: 19})
}

// TestStoryReplies: as they were answered, with Head and Cert.
func TestStoryReplies(t *testing.T) {
	s := New()
	var want []Event
	for part := range api.MaxParts {
		for i, o := range kinds(part) {
			e := Event{Tab: i % api.MaxTabs, Op: o, From: 4*len(want) + 1, To: 4*len(want) + 4}
			e.Reply = do(t, s, e.Tab, o)
			want = append(want, e)
		}
	}
	wantStory(t, s, want...)
	heads, certs := 0, 0
	for _, e := range s.Story() {
		heads += len(e.Reply.Head)
		certs += e.Reply.Cert
	}
	if heads < 100 || certs < 4 {
		t.Errorf("%d bytes of Heads, %d of Certs", heads, certs)
	}
}

// TestStoryBusy: what ends Busy is told, from the step in which it began first, and nothing of what it was answered before.
func TestStoryBusy(t *testing.T) {
	s := full(t)
	story := s.Story()
	last := story[len(story)-1].To
	attach := opOf(api.Attach)
	begin(t, s, 0, attach)
	for i := range api.MaxTries + 1 {
		step(t, s, 0, Read)
		step(t, s, 0, Worked)
		from := last + 4 + 7*i
		story = append(story, Event{Tab: 5, Op: attach, Reply: do(t, s, 5, attach), From: from, To: from + 3})
		if i < api.MaxTries {
			step(t, s, 0, Begun)
		}
	}
	wantEnd(t, s, 0, api.Reply{What: api.Busy})
	story = append(story, Event{Tab: 0, Op: attach, Reply: api.Reply{What: api.Busy}, From: last + 1, To: last + 29})
	wantStory(t, s, story...)
}

// TestStoryCancelled: nothing is told of what was Cancelled, but its steps, Begin and Cancel, are counted; calls that answer an error are not.
func TestStoryCancelled(t *testing.T) {
	for does := Begun; does <= Worked; does++ {
		s := New()
		wrong(t, s)
		bring(t, s, 1, opOf(api.Choose, cert(1)), does)
		wrong(t, s)
		bring(t, s, 0, opOf(api.Pick), does)
		cancel(t, s, 1)
		wrong(t, s)
		wantStory(t, s)
		for next := does + 1; next <= Worked; next++ {
			step(t, s, 0, next)
		}
		wrong(t, s)
		end(t, s, 0)
		wrong(t, s)
		wantStory(t, s, Event{Tab: 0, Op: opOf(api.Pick), Reply: api.Reply{What: api.Prompt}, From: does + 1, To: does + 5})
		do(t, s, 1, opOf(api.Check))
		wantStory(t, s,
			Event{Tab: 0, Op: opOf(api.Pick), Reply: api.Reply{What: api.Prompt}, From: does + 1, To: does + 5},
			Event{Tab: 1, Op: opOf(api.Check), Reply: api.Reply{What: api.Yes}, From: does + 6, To: does + 9})
	}
}

// TestStoryOps: an operation is told as it was begun, whatever its fields are.
func TestStoryOps(t *testing.T) {
	o := api.Op{
		What: api.Tick, Proxy: true, Text: "text", Creds: api.Creds{User: "user", Pass: "pass"}, Cnonce: "cnonce", Cert: -4, All: true, N: 7,
		Req: api.Request{
			Part: 3, From: api.Origin{Host: "from", Port: 5}, URL: api.URL{Origin: api.Origin{Secure: true, Host: "to", Port: 6}, Path: "/path", Query: "query"},
			Method: "method", Heads: []api.Param{{Name: "a", Value: "1"}, {Name: "b", Value: "2"}}, With: true, Body: "body",
		},
	}
	s := New()
	do(t, s, 3, o)
	wantStory(t, s, Event{Tab: 3, Op: o, Reply: api.Reply{What: api.Done}, From: 1, To: 4})
	o.Req.Heads, o.What, o.Req.Part = nil, 99, -7
	do(t, s, 3, o)
	if e := s.Story()[1]; len(e.Op.Req.Heads) != 0 || e.Op.What != 99 || e.Op.Req.Part != -7 || e.Reply.What != api.Odd {
		t.Errorf("%+v", e)
	}
}

// TestStoryApart: what is changed in a told Story changes nothing else.
func TestStoryApart(t *testing.T) {
	s := full(t)
	o := opOf(api.Check)
	o.Req.Heads = []api.Param{{Name: "a", Value: "1"}, {Name: "b", Value: "2"}}
	do(t, s, 0, o)
	bring(t, s, 1, o, Worked)
	before := tell(s)
	l, other := s.Story(), s.Story()
	for _, e := range l {
		spoil(e.Op.Req.Heads, api.Param{Name: "spoilt"})
	}
	spoil(l, Event{Tab: 99})
	same(t, "behind it", tell(s), before)
	same(t, "another Story", tellStory(other), tellStory(s.Story()))
	l = append(s.Story()[:1], Event{Tab: 98})
	same(t, "behind another one that is longer", tell(s), before)
	end(t, s, 1)
	if len(l) != 2 || l[1].Tab != 98 || len(other) != len(s.Story())-1 {
		t.Errorf("a told Story went on")
	}
}

// spoil writes over a list, and over what stands behind it.
func spoil[T any](l []T, over T) {
	l = l[:cap(l)]
	for i := range l {
		l[i] = over
	}
}

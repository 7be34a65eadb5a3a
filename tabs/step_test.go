package tabs

import (
	"fmt"
	"slices"
	"testing"

	"gatepost/api"
	"gatepost/world"
)

// cellsOf is what an operation asks for, and whether it changes that, as the document tells it.
func cellsOf(o api.Op) (cells []string, changes bool) {
	if asks, _ := world.Cells(o); asks == 0 {
		return nil, false
	}
	part := fmt.Sprint(" of ", o.Req.Part)
	switch o.What {
	case api.Check, api.Allowed:
		return []string{"book" + part, "clock"}, o.What == api.Allowed
	case api.Pick, api.Choose:
		return []string{"certs" + part}, o.What == api.Choose
	case api.Clear:
		return []string{"bank" + part, "book" + part, "certs" + part}, true
	case api.Tick:
		return []string{"clock"}, true
	}
	return []string{"bank" + part}, true
}

// inTheWay says whether one that ends is in the way of one that goes on.
func inTheWay(ends, goesOn api.Op) bool {
	cells, changes := cellsOf(ends)
	others, _ := cellsOf(goesOn)
	return changes && slices.ContainsFunc(cells, func(cell string) bool { return slices.Contains(others, cell) })
}

// kinds are an operation of each kind, and some that are answered otherwise.
func kinds(part int) []api.Op {
	return append(append(odds(part), mixed(part)...), clears(part)...)
}

// TestAlone: three steps, the first two answer nothing and change nothing; the answer and the world are those of Do.
func TestAlone(t *testing.T) {
	s := New()
	w := s.World()
	var answers [api.Odd + 1]int
	for part := range api.MaxParts {
		for i, o := range kinds(part) {
			n := i % api.MaxTabs
			before := tellWorld(s.World())
			begin(t, s, n, o)
			step(t, s, n, Read)
			same(t, "the world when it has read", tellWorld(s.World()), before)
			step(t, s, n, Worked)
			same(t, "the world when it has worked", tellWorld(s.World()), before)
			want := w.Do(o)
			wantEnd(t, s, n, want)
			same(t, fmt.Sprintf("the world behind %+v", o), tellWorld(s.World()), tellWorld(w))
			answers[want.What]++
		}
	}
	for _, what := range []int{api.Done, api.Prompt, api.No, api.Odd} {
		if answers[what] < 3 {
			t.Errorf("answer %d was answered %d times", what, answers[what])
		}
	}
}

// TestInTheWay: one that goes on in each state, of each kind, while another one of each kind comes to its end, in the same or another partition: just those fail of which a cell's number was moved since they read.
func TestInTheWay(t *testing.T) {
	others := append(kinds(1), kinds(2)...)
	for _, part := range []int{1, 3} {
		for _, goesOn := range kinds(part) {
			for _, ends := range others {
				s := full(t)
				w := s.World()
				for does := Begun; does <= Worked; does++ {
					bring(t, s, 4, goesOn, does)
					want := w.Do(ends)
					if got := do(t, s, 0, ends); got != want {
						t.Errorf("%+v: %+v; want %+v", ends, got, want)
					}
					for next := does + 1; next <= Worked; next++ {
						step(t, s, 4, next)
					}
					if does > Begun && inTheWay(ends, goesOn) {
						step(t, s, 4, Begun)
						step(t, s, 4, Read)
						step(t, s, 4, Worked)
					}
					wantEnd(t, s, 4, w.Do(goesOn))
					same(t, "the world", tellWorld(s.World()), tellWorld(w))
				}
				if t.Failed() {
					t.Fatalf("%+v beside %+v", goesOn, ends)
				}
			}
		}
	}
}

// orders are all orders in which two tabs may make so many steps.
func orders(zeros, ones int) (l [][]int) {
	if zeros+ones == 0 {
		return [][]int{nil}
	}
	if zeros > 0 {
		for _, order := range orders(zeros-1, ones) {
			l = append(l, append([]int{0}, order...))
		}
	}
	if ones > 0 {
		for _, order := range orders(zeros, ones-1) {
			l = append(l, append([]int{1}, order...))
		}
	}
	return l
}

// TestOrders: two operations, their Begins and steps in each order, then one behind the other: all as the rule has it.
func TestOrders(t *testing.T) {
	first := []api.Op{
		opOf(api.Attach), opOf(api.Refused, told("Basic realm=r")), opOf(api.Check), opOf(api.Allowed, told(allowAny)),
		opOf(api.Pick), opOf(api.Choose, cert(3)), opOf(api.Clear), opOf(api.Tick, later(5)), opOf(api.Tick, later(-1)), {},
	}
	before := mixed(0)
	before = []api.Op{before[0], before[1], before[8], before[10]}
	for part := range 2 {
		for _, x := range first {
			for _, y := range first {
				y.Req.Part = part
				for _, order := range orders(4, 4) {
					p := newPair()
					for _, o := range before {
						p.do(t, 2, o)
					}
					var begun [2]bool
					for _, n := range order {
						if begun[n] {
							p.step(t, n)
						} else {
							p.begin(t, n, []api.Op{x, y}[n])
						}
						begun[n] = true
					}
					for n := range 2 {
						for p.tabs.Does(n) != Idle {
							p.step(t, n)
						}
					}
					p.compare(t)
					if t.Failed() {
						t.Fatalf("%+v and %+v, in the order %v", x, y, order)
					}
				}
			}
		}
	}
}

// TestUnseen: neither World nor another tab sees what was worked on before it ends.
func TestUnseen(t *testing.T) {
	s := New()
	bring(t, s, 0, opOf(api.Choose, cert(1)), Worked)
	if r := do(t, s, 1, opOf(api.Pick)); r.What != api.Prompt {
		t.Errorf("Pick: %+v", r)
	}
	same(t, "the world", tellWorld(s.World()), tellWorld(world.New()))
	bring(t, s, 1, opOf(api.Pick), Read)
	bring(t, s, 2, opOf(api.Pick), Worked)
	wantEnd(t, s, 0, api.Reply{What: api.Done})
	// What read before it fails, worked or not, and sees it when it reads anew.
	step(t, s, 1, Worked)
	for n := 1; n <= 2; n++ {
		step(t, s, n, Begun)
		step(t, s, n, Read)
		step(t, s, n, Worked)
		wantEnd(t, s, n, api.Reply{What: api.Done, Cert: 1})
	}
}

// TestReadAsItWas: what is done is done in what was read, not in what is there when it works.
func TestReadAsItWas(t *testing.T) {
	s := New()
	bring(t, s, 0, opOf(api.Check), Read)
	// Its Book stays as it was; that of another partition doesn't matter.
	do(t, s, 1, opOf(api.Choose, cert(1)))
	do(t, s, 1, opOf(api.Refused, told("Basic realm=r")))
	step(t, s, 0, Worked)
	wantEnd(t, s, 0, api.Reply{What: api.Yes})
	// Two that change other cells of one partition are both there at the end.
	bring(t, s, 0, opOf(api.Choose, cert(2)), Worked)
	bring(t, s, 1, opOf(api.Allowed, told(allowAny)), Worked)
	bring(t, s, 2, opOf(api.Answered, by("u", "p")), Worked)
	bring(t, s, 3, opOf(api.Choose, in(1), cert(3)), Worked)
	for n := range 4 {
		wantEnd(t, s, n, api.Reply{What: api.Done})
	}
	w := s.World()
	if len(w.Grants(0)) != 1 || len(w.Waits(0)) != 0 || len(w.Passes(0)) != 2 || w.Certs(0)[0].N != 2 || w.Certs(1)[0].N != 3 {
		t.Errorf("the world: %s", tellWorld(w))
	}
}

// TestReadersTogether: those that change nothing are in nobody's way.
func TestReadersTogether(t *testing.T) {
	for _, o := range []api.Op{opOf(api.Check), opOf(api.Pick), {}} {
		s := full(t)
		for n := range api.MaxTabs {
			bring(t, s, n, o, Worked)
		}
		want := s.World().Do(o)
		for n := range api.MaxTabs {
			wantEnd(t, s, n, want)
		}
	}
	// Nor are they in the way of one that changes what they read.
	s := New()
	bring(t, s, 0, opOf(api.Allowed, told(allowAny)), Worked)
	bring(t, s, 1, opOf(api.Choose, cert(1)), Worked)
	do(t, s, 2, opOf(api.Check))
	do(t, s, 2, opOf(api.Pick))
	wantEnd(t, s, 0, api.Reply{What: api.Done})
	wantEnd(t, s, 1, api.Reply{What: api.Done})
}

// fail lets a tab's operation fail, as another tab's is in its way.
func fail(t *testing.T, s *Tabs, n int, way api.Op, does int) {
	t.Helper()
	if s.Does(n) == Begun {
		step(t, s, n, Read)
	}
	do(t, s, 5, way)
	if s.Does(n) == Read {
		step(t, s, n, Worked)
	}
	step(t, s, n, does)
}

// TestFailures: up to MaxTries of them it is Begun again, and may be done yet; one more, and it ends, Busy, and nothing is changed.
func TestFailures(t *testing.T) {
	pairs := [][2]api.Op{
		{opOf(api.Attach), opOf(api.Attach)},
		{opOf(api.Refused, told("Basic realm=x")), opOf(api.Clear)},
		{opOf(api.Check), opOf(api.Tick, later(1))},
		{opOf(api.Check), opOf(api.Tick, in(3), later(0))},
		{opOf(api.Allowed, told(allowAny)), opOf(api.Allowed, in(2), told(""))},
		{opOf(api.Pick), opOf(api.Choose, cert(4))},
		{opOf(api.Pick), opOf(api.Choose, cert(-1))},
		{opOf(api.Choose, cert(3)), opOf(api.Clear, everything)},
		{opOf(api.Clear, everything), opOf(api.Allowed, told("a b"))},
		{opOf(api.Tick, later(7)), opOf(api.Tick, later(600))},
		{opOf(api.Tick, later(-7)), opOf(api.Tick, later(-600))},
	}
	for _, p := range pairs {
		for failures := range 5 {
			s := full(t)
			w := s.World()
			begin(t, s, 1, p[0])
			for range min(failures, 3) {
				fail(t, s, 1, p[1], Begun)
				w.Do(p[1])
				same(t, "the world behind a failure", tellWorld(s.World()), tellWorld(w))
			}
			step(t, s, 1, Read)
			step(t, s, 1, Worked)
			if failures < 4 {
				wantEnd(t, s, 1, w.Do(p[0]))
			} else {
				do(t, s, 5, p[1])
				w.Do(p[1])
				wantEnd(t, s, 1, api.Reply{What: api.Busy})
			}
			same(t, fmt.Sprintf("the world behind %d failures of %+v", failures, p[0]), tellWorld(s.World()), tellWorld(w))
		}
	}
}

// busyNext: with its next failure a tab's operation ends, Busy.
func busyNext(t *testing.T, s *Tabs, n int, way api.Op) {
	t.Helper()
	step(t, s, n, Read)
	step(t, s, n, Worked)
	do(t, s, 5, way)
	wantEnd(t, s, n, api.Reply{What: api.Busy})
}

// busy: Begun, a tab's operation fails as often as it may, and once more.
func busy(t *testing.T, s *Tabs, n int, way api.Op) {
	t.Helper()
	for range api.MaxTries {
		fail(t, s, n, way, Begun)
	}
	busyNext(t, s, n, way)
}

// TestFailuresOwn: each operation's are its own, and start anew with each Begin.
func TestFailuresOwn(t *testing.T) {
	way := opOf(api.Choose, cert(9))
	// Behind a Cancel, in each state; behind one that was done; behind a Busy one.
	for does := Begun; does <= Worked; does++ {
		s := New()
		begin(t, s, 0, opOf(api.Pick))
		for range 3 {
			fail(t, s, 0, way, Begun)
		}
		for next := Read; next <= does; next++ {
			step(t, s, 0, next)
		}
		cancel(t, s, 0)
		begin(t, s, 0, opOf(api.Pick))
		busy(t, s, 0, way)
		begin(t, s, 0, opOf(api.Pick))
		for range 3 {
			fail(t, s, 0, way, Begun)
		}
		step(t, s, 0, Read)
		step(t, s, 0, Worked)
		wantEnd(t, s, 0, api.Reply{What: api.Done, Cert: 9})
		begin(t, s, 0, opOf(api.Pick))
		busy(t, s, 0, way)
		begin(t, s, 0, opOf(api.Pick))
		busy(t, s, 0, way)
	}
	// Those of one aren't those of another one: with n of them each, one more makes but the last one Busy.
	s := New()
	for n := range 4 {
		begin(t, s, n, opOf(api.Choose, cert(n)))
		for range n {
			fail(t, s, n, way, Begun)
		}
	}
	for n := range 4 {
		step(t, s, n, Read)
		step(t, s, n, Worked)
	}
	do(t, s, 5, way)
	for n := range 3 {
		step(t, s, n, Begun)
	}
	wantEnd(t, s, 3, api.Reply{What: api.Busy})
	for n := range 3 {
		for range 2 - n {
			fail(t, s, n, way, Begun)
		}
		busyNext(t, s, n, way)
	}
}

// TestFailedMovesNone: one that fails, ends Busy or is Cancelled is in nobody's way.
func TestFailedMovesNone(t *testing.T) {
	for _, o := range kinds(1) {
		if !inTheWay(o, o) {
			continue
		}
		s := full(t)
		begin(t, s, 0, o)
		for range 4 {
			step(t, s, 0, Read)
			step(t, s, 0, Worked)
			do(t, s, 5, o)
			// All that it could be in the way of read behind the one that was in its way.
			for n, x := range []api.Op{opOf(api.Attach, in(1)), opOf(api.Check, in(1)), opOf(api.Choose, in(1), cert(5)), opOf(api.Tick, in(2), later(0))} {
				bring(t, s, n+1, x, Worked)
			}
			if r, ended, _ := s.Step(0); ended && r != (api.Reply{What: api.Busy}) {
				t.Errorf("%+v: %+v", o, r)
			}
			// (The Check goes first: the Tick is in its way.)
			for _, n := range []int{2, 1, 3, 4} {
				end(t, s, n)
			}
		}
		wantDoes(t, s, 0, Idle)
		for does := Begun; does <= Worked; does++ {
			for n, x := range []api.Op{opOf(api.Attach, in(1)), opOf(api.Check, in(1)), opOf(api.Choose, in(1), cert(5)), opOf(api.Tick, in(2), later(0))} {
				bring(t, s, n+1, x, Worked)
			}
			bring(t, s, 0, o, does)
			cancel(t, s, 0)
			for _, n := range []int{2, 1, 3, 4} {
				end(t, s, n)
			}
		}
		if t.Failed() {
			t.Fatalf("%+v", o)
		}
	}
}

// TestChangedThere: an operation that changes nothing to be seen moves the numbers of its cells all the same.
func TestChangedThere(t *testing.T) {
	for _, way := range []api.Op{
		opOf(api.Attach), opOf(api.Answered), opOf(api.Refused, told("")), opOf(api.Refused, told("x y")), opOf(api.Logout),
	} {
		s := New()
		bring(t, s, 0, opOf(api.Attach), Worked)
		do(t, s, 1, way)
		step(t, s, 0, Begun)
		same(t, "the world", tellWorld(s.World()), tellWorld(world.New()))
	}
	// Back to what it was isn't as if nothing had been.
	s := New()
	bring(t, s, 0, opOf(api.Pick), Worked)
	do(t, s, 1, opOf(api.Choose, cert(1)))
	do(t, s, 1, opOf(api.Clear))
	step(t, s, 0, Begun)
}

// TestBegunReadsNothing: what ends before a Begun operation reads is not in its way, be that ever so late.
func TestBegunReadsNothing(t *testing.T) {
	s := New()
	begin(t, s, 0, opOf(api.Pick))
	for i := range 10 {
		do(t, s, 1, opOf(api.Choose, cert(i)))
	}
	step(t, s, 0, Read)
	step(t, s, 0, Worked)
	wantEnd(t, s, 0, api.Reply{What: api.Done, Cert: 9})
	// Just so behind a failure.
	bring(t, s, 0, opOf(api.Pick), Worked)
	do(t, s, 1, opOf(api.Choose, cert(10)))
	step(t, s, 0, Begun)
	do(t, s, 1, opOf(api.Choose, cert(11)))
	step(t, s, 0, Read)
	step(t, s, 0, Worked)
	wantEnd(t, s, 0, api.Reply{What: api.Done, Cert: 11})
}

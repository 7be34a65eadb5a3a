package world

import (
	"fmt"
	"math"
	"math/rand"
	"testing"

	"gatepost/api"
)

// cellsOf is what each operation asks for, and whether it changes that, as the document tells it.
func cellsOf(what int) (int, bool) {
	switch what {
	case api.Check:
		return 2 + 8, false
	case api.Allowed:
		return 2 + 8, true
	case api.Pick:
		return 4, false
	case api.Choose:
		return 4, true
	case api.Clear:
		return 1 + 2 + 4, true
	case api.Tick:
		return 8, true
	}
	return 1, true
}

func wantCells(t *testing.T, o api.Op, cells int, changes bool) {
	t.Helper()
	if got, ok := Cells(o); got != cells || ok != changes {
		t.Errorf("Cells(%+v) = %d, %v; want %d, %v", o, got, ok, cells, changes)
	}
}

// TestCellBits: they are bits of their own.
func TestCellBits(t *testing.T) {
	if Bank != 1 || Book != 2 || Certs != 4 || Clock != 8 {
		t.Errorf("%d %d %d %d", Bank, Book, Certs, Clock)
	}
}

// TestCells: of each operation; of one that is odd by what it is alone nothing.
func TestCells(t *testing.T) {
	for what := api.Attach; what <= api.Tick; what++ {
		cells, changes := cellsOf(what)
		for _, x := range fine() {
			wantCells(t, opOf(what, x.spoil), cells, changes)
		}
		for _, x := range oddities() {
			wantCells(t, opOf(what, x.spoil), 0, false)
		}
		// What is Odd by the table alone asks for its cells.
		for _, c := range []change{told("Basic realm x"), told("a b"), cert(-1), cert(math.MinInt), later(-1), later(math.MaxInt)} {
			wantCells(t, opOf(what, c), cells, changes)
		}
	}
}

// tellCells is a partition, and the time, each cell of it for itself.
func tellCells(w *World, part int) [4]string {
	return [4]string{tellBank(w, part), tellBook(w, part), tellCerts(w, part), fmt.Sprint(w.Now())}
}

// TestCellsAreAll: an operation changes nothing but its cells, none if it says so, and hangs on nothing else.
func TestCellsAreAll(t *testing.T) {
	die := rand.New(rand.NewSource(12))
	changed := map[int]int{}
	w, other := New(), full()
	for range 6000 {
		o := drawnOp(die.Intn)
		cells, changes := Cells(o)
		before, others := tellCells(w, o.Req.Part), [][4]string{}
		for part := range 4 {
			others = append(others, tellCells(w, part))
		}
		// Another world that has just its cells answers the same, and has the same there.
		alone := other.Copy()
		alone.Take(w, o.Req.Part, cells)
		if got, want := alone.Do(o), w.Do(o); got != want {
			t.Fatalf("%+v: %+v, with its cells alone %+v", o, want, got)
		}
		behind, there := tellCells(w, o.Req.Part), tellCells(alone, o.Req.Part)
		for i := range 4 {
			if isCell := cells>>i&1 == 1; isCell && there[i] != behind[i] {
				t.Fatalf("%+v: cell %d: %s\nwith its cells alone: %s", o, 1<<i, behind[i], there[i])
			} else if behind[i] != before[i] {
				changed[1<<i]++
				if !isCell || !changes {
					t.Fatalf("%+v: cell %d was changed", o, 1<<i)
				}
			}
		}
		// Nothing crosses.
		for _, part := range partsBut(o.Req.Part) {
			now := tellCells(w, part)
			now[3] = others[part][3]
			if now != others[part] {
				t.Fatalf("%+v: partition %d was changed", o, part)
			}
		}
		if die.Intn(100) == 0 {
			w, other = other, w
		}
	}
	for i := range 4 {
		if changed[1<<i] < 200 {
			t.Errorf("cell %d was changed %d times", 1<<i, changed[1<<i])
		}
	}
}

// another is a world that differs from full in each cell of each partition.
func another() *World {
	w := New()
	w.Do(opOf(api.Tick, later(500)))
	for part := range 4 {
		for range part + 1 {
			w.Do(opOf(api.Refused, in(part), told("Basic realm=another")))
			w.Do(opOf(api.Answered, in(part), by("another", "one")))
			w.Do(opOf(api.Attach, in(part)))
			w.Do(opOf(api.Allowed, in(part), told(allowAny), path("/another")))
			w.Do(opOf(api.Choose, in(part), cert(50+part)))
		}
	}
	return w
}

// TestTake: just those cells of just that partition are as in the other world.
func TestTake(t *testing.T) {
	for _, worlds := range [][2]func() *World{{full, another}, {another, full}, {full, New}, {New, full}, {full, full}} {
		for part := range 4 {
			for cells := range 16 {
				w, from := worlds[0](), worlds[1]()
				before, all := tell(w), tell(from)
				want := tellCells(w, part)
				for i, cell := range tellCells(from, part) {
					if cells>>i&1 == 1 {
						want[i] = cell
					}
				}
				var others []string
				for _, other := range partsBut(part) {
					others = append(others, tellPart(w, other))
				}
				w.Take(from, part, cells)
				if got := tellCells(w, part); got != want {
					t.Errorf("Take(%d, %d): %q; want %q", part, cells, got, want)
				}
				for i, other := range partsBut(part) {
					same(t, "another partition", tellPart(w, other), others[i])
				}
				same(t, "the other world", tell(from), all)
				if cells == 0 {
					same(t, "Take of nothing", tell(w), before)
				}
			}
		}
	}
}

// TestTakeBits: other bits don't matter.
func TestTakeBits(t *testing.T) {
	for _, high := range []int{16, 32, 1 << 40, math.MinInt, -16} {
		for cells := range 16 {
			w, plain := full(), full()
			w.Take(another(), 1, cells|high)
			plain.Take(another(), 1, cells)
			same(t, fmt.Sprint("Take of ", cells|high), tell(w), tell(plain))
		}
	}
	w := full()
	w.Take(another(), 2, -1)
	if tellCells(w, 2) != tellCells(another(), 2) {
		t.Errorf("Take of all bits: %s", tell(w))
	}
}

// TestTakeNothing: of a partition that isn't there nothing, not even the time.
func TestTakeNothing(t *testing.T) {
	for _, part := range []int{-1, -4, 4, 5, 256, math.MaxInt, math.MinInt} {
		for cells := range 16 {
			w, from := full(), another()
			w.Take(from, part, cells)
			same(t, fmt.Sprintf("Take(%d, %d)", part, cells), tell(w), tell(full()))
			same(t, "the other world", tell(from), tell(another()))
		}
	}
	// Of no world there is nothing to take.
	w := full()
	w.Take(nil, 0, Bank|Book|Certs|Clock)
	same(t, "Take of no world", tell(w), tell(full()))
}

// TestTakeItself: it has then what it had.
func TestTakeItself(t *testing.T) {
	for part := range 4 {
		for cells := range 16 {
			w := full()
			w.Take(w, part, cells)
			same(t, fmt.Sprintf("Take(%d, %d) of itself", part, cells), tell(w), tell(full()))
			w.Do(opOf(api.Attach, in(part)))
			alone := full()
			alone.Do(opOf(api.Attach, in(part)))
			same(t, "behind it", tell(w), tell(alone))
		}
	}
}

// TestTakeApart: whatever is done to one of both behind it, the other one stays.
func TestTakeApart(t *testing.T) {
	for part := range 4 {
		for _, cells := range []int{Bank, Book, Certs, Clock, Bank | Book | Certs | Clock} {
			for _, a := range acts() {
				w, from := another(), full()
				w.Take(from, part, cells)
				all := tell(w)
				a.do(from)
				same(t, a.name+" on the other world", tell(w), all)
				w, from = another(), full()
				w.Take(from, part, cells)
				a.do(w)
				same(t, a.name, tell(from), tell(full()))
			}
		}
	}
}

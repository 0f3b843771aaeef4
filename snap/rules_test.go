package snap_test

// ErrNil (of nets that New did not return), the order of errors, and what an error leaves; P1 (no panic, for all
// arguments), P2 (a result depends only on the arguments and the calls before), and the rule about memory.

import (
	"fmt"
	"math/rand"
	"runtime"
	"slices"
	"sync"
	"testing"

	"encaustic/api"
	"encaustic/snap"
)

// call is what a method returned: its result, written down, and whether that is the zero value.
type call struct {
	name, result string
	zero         bool
	errno        api.Errno
}

// looking calls the methods that change nothing.
func looking(net *snap.Net, x, y int) []call {
	waiting, e := net.Waiting(x, y)
	list := []call{{"Waiting", fmt.Sprint(waiting), len(waiting) == 0, e}}
	done, e := net.Done(x)
	list = append(list, call{"Done", fmt.Sprint(done), !done, e})
	s, e := net.Snapshot(x)
	list = append(list, call{"Snapshot", fmt.Sprint(s), s.Pieces == nil && s.Under == nil, e})
	cut, e := net.Cut(x)
	return append(list, call{"Cut", fmt.Sprint(cut), len(cut) == 0, e})
}

// doing calls the methods that do something.
func doing(net *snap.Net, x, y, z int) []call {
	list := []call{{"Work", "", true, net.Work(x, z)}}
	list = append(list, call{"Send", "", true, net.Send(x, y, z)})
	list = append(list, call{"Receive", "", true, net.Receive(x, y)})
	no, e := net.Start(x)
	return append(list, call{"Start", fmt.Sprint(no), no == 0, e})
}

// noNets are nets that New did not return.
func noNets() []*snap.Net { return []*snap.Net{nil, {}, new(snap.Net)} }

// TestNoNet: ErrNil comes before all other errors, and without an error the result is the zero value.
func TestNoNet(t *testing.T) {
	for _, net := range noNets() {
		for _, x := range ints() {
			for _, y := range ints() {
				for _, c := range append(doing(net, x, y, 1), append(doing(net, x, y, x), looking(net, x, y)...)...) {
					if c.errno != api.ErrNil || !c.zero {
						t.Errorf("%s(%d, %d) = %s, %d", c.name, x, y, c.result, c.errno)
					}
				}
			}
		}
		if pieces, events, total := net.Pieces(), net.Events(), net.Total(); len(pieces) != 0 || len(events) != 0 || total != 0 {
			t.Errorf("Pieces() = %v, Events() = %v, Total() = %d", pieces, events, total)
		}
		if c := net.Copy(); c != nil {
			t.Errorf("Copy() = %v", c)
		}
	}
}

// TestZeroNetStays: what is refused makes no net of a zero one.
func TestZeroNetStays(t *testing.T) {
	net := &snap.Net{}
	doing(net, 0, 1, 1)
	want(t, "Work", net.Work(0, 1), api.ErrNil)
	if net.Copy() != nil || len(net.Events()) != 0 {
		t.Error(net.Events())
	}
}

// TestErrorsChangeNothing calls methods with all numbers, and looks at the net after each one that was refused.
func TestErrorsChangeNothing(t *testing.T) {
	random := rand.New(rand.NewSource(92))
	for round := range 8 {
		b := walk(t, random, 2+round%4, 60)
		before := look(b.net, b.diary.snapshots)
		for _, x := range ints() {
			for _, y := range ints() {
				for _, c := range looking(b.net, x, y) {
					if c.errno != api.OK && !c.zero {
						t.Errorf("%s(%d, %d) = %s, %d", c.name, x, y, c.result, c.errno)
					}
				}
				net := b.net.Copy()
				refused := true
				for _, c := range doing(net, x, y, y) {
					refused = refused && c.errno != api.OK
					if c.errno != api.OK && !c.zero {
						t.Errorf("%s(%d, %d) = %s, %d", c.name, x, y, c.result, c.errno)
					}
				}
				if after := look(net, b.diary.snapshots); refused && after != before {
					t.Fatalf("%s: with %d, %d first\n%sand then\n%s", b.done, x, y, before, after)
				}
			}
		}
		if after := look(b.net, b.diary.snapshots); after != before {
			t.Errorf("%s: first\n%sand then\n%s", b.done, before, after)
		}
	}
}

func TestNoArgumentPanics(t *testing.T) {
	for _, x := range ints() {
		for _, y := range ints() {
			for what := -1; what <= 4; what++ {
				e := api.Event{Station: x, What: what, Other: y, Pieces: x, Clock: []int{x, y}}
				other := api.Event{Station: y, What: what, Other: x, Pieces: y, Clock: []int{y, x, y}}
				snap.Before(e, other)
				for n := -1; n <= 6; n++ {
					for _, events := range [][]api.Event{{e}, {e, other}, {sent(1, 0), other, e}} {
						snap.Consistent(n, events, []int{x, y})
						snap.Ideals(n, events)
					}
				}
			}
			snap.Consistent(x, nil, []int{x, y})
			snap.Ideals(x, chains(y&7, x&7))
			snap.New([]int{x, y})
			snap.New([]int{x, y, x, y, x})
		}
	}
}

// script is what a net and its events say after a walk.
func script(t *testing.T, seed int64) string {
	b := walk(t, rand.New(rand.NewSource(seed)), 2+int(seed)%4, 100)
	events := b.net.Events()
	events = events[:min(len(events), 30)]
	count, e := snap.Ideals(2+int(seed)%4, events)
	return look(b.net, b.diary.snapshots) + fmt.Sprintln(count, e) + look(b.net, b.diary.snapshots)
}

// TestResultsDependOnCalls does the same again, with others in between, and in several goroutines with a net each.
func TestResultsDependOnCalls(t *testing.T) {
	var first []string
	for seed := range 12 {
		first = append(first, script(t, int64(seed)))
	}
	old := runtime.GOMAXPROCS(1)
	for seed := 11; seed >= 0; seed-- {
		if again := script(t, int64(seed)); again != first[seed] {
			t.Errorf("first\n%sand then\n%s", first[seed], again)
		}
	}
	runtime.GOMAXPROCS(old)
	var group sync.WaitGroup
	again := make([]string, len(first))
	for seed := range first {
		group.Go(func() { again[seed] = script(t, int64(seed)) })
	}
	group.Wait()
	for seed := range first {
		if again[seed] != first[seed] {
			t.Errorf("first\n%sand in a goroutine\n%s", first[seed], again[seed])
		}
	}
}

// TestArgumentsStay gives lists with room behind them, which must stay as it is too.
func TestArgumentsStay(t *testing.T) {
	random := rand.New(rand.NewSource(93))
	pieces := []int{4, 5, 6, 99}
	net := newNet(t, pieces[:3]...)
	net.Work(0, 1)
	net.Send(1, 2, 5)
	if fmt.Sprint(pieces) != "[4 5 6 99]" {
		t.Error(pieces)
	}
	for range 20 {
		b := walk(t, random, 3, 40)
		events := b.net.Events()
		events = append(events[:min(len(events), 20)], made(2))
		cut := []int{2, 1, 0, 77}
		given := fmt.Sprint(events, cut)
		snap.Consistent(3, events[:len(events)-1], cut[:3])
		snap.Ideals(3, events[:len(events)-1])
		snap.Before(events[0], events[1])
		if now := fmt.Sprint(events, cut); now != given {
			t.Errorf("%s has become %s", given, now)
		}
	}
}

// TestArgumentsAreNotKept changes the list that a net was made of.
func TestArgumentsAreNotKept(t *testing.T) {
	pieces := []int{4, 5}
	net, _ := snap.New(pieces)
	pieces[0], pieces[1] = 70, 80
	wantPieces(t, net, 9, 4, 5)
	want(t, "Send", net.Send(0, 1, 5), api.ErrPlan)
}

// spoil overwrites a list and the room behind it.
func spoil(list []int) {
	list = list[:cap(list)]
	for i := range list {
		list[i] = -99
	}
}

// lists are all lists of numbers that a net has in its results; those of a snapshot that is not done are empty.
func lists(net *snap.Net, snapshots int) [][]int {
	pieces := net.Pieces()
	list := [][]int{pieces}
	for at := range pieces {
		for to := range pieces {
			waiting, _ := net.Waiting(at, to)
			list = append(list, waiting)
		}
	}
	for no := range snapshots {
		s, _ := net.Snapshot(no + 1)
		cut, _ := net.Cut(no + 1)
		list = append(list, s.Pieces, cut)
		for _, rows := range s.Under {
			list = append(list, rows...)
		}
	}
	for _, e := range net.Events() {
		list = append(list, e.Clock)
	}
	return list
}

// TestResultsAreNewMemory spoils results, and looks at the net, at its copies, and at other results again.
func TestResultsAreNewMemory(t *testing.T) {
	random := rand.New(rand.NewSource(94))
	for round := range 40 {
		b := walk(t, random, 2+round%4, 70)
		b.drain(t, random)
		for range 10 {
			b.step(t, random)
		}
		other := b.copied()
		list := lists(b.net, b.diary.snapshots)
		for i, l := range list {
			rest := fmt.Sprint(list[i+1:])
			spoil(l)
			if fmt.Sprint(list[i+1:]) != rest {
				t.Fatalf("%s: of all lists number %d shares with a later one: %s", b.done, i, rest)
			}
		}
		b.look(t)
		other.look(t)
		for range 20 {
			b.step(t, random)
		}
		b.look(t)
		other.look(t)
	}
}

// TestListsOfListsAreNewMemory spoils lists of events, and of what was under way.
func TestListsOfListsAreNewMemory(t *testing.T) {
	random := rand.New(rand.NewSource(97))
	for round := range 20 {
		b := walk(t, random, 2+round%4, 60)
		b.drain(t, random)
		events := b.net.Events()
		clear(events[:cap(events)])
		for no := range b.diary.snapshots {
			s, _ := b.net.Snapshot(no + 1)
			for _, rows := range s.Under {
				clear(rows[:cap(rows)])
			}
			clear(s.Under[:cap(s.Under)])
		}
		b.look(t)
		b.work(t, 0, 1)
		b.look(t)
	}
}

// TestResultsStay: what is done later changes no result.
func TestResultsStay(t *testing.T) {
	random := rand.New(rand.NewSource(98))
	for round := range 20 {
		b := walk(t, random, 2+round%4, 60)
		list, events := lists(b.net, b.diary.snapshots), b.net.Events()
		given := fmt.Sprint(list, events)
		for range 80 {
			b.step(t, random)
		}
		b.drain(t, random)
		if now := fmt.Sprint(list, events); now != given {
			t.Errorf("%s: %s has become %s", b.done, given, now)
		}
	}
}

// TestChannelsOfCopiesStayApart: messages put into the same channel of both, after the copy was made.
func TestChannelsOfCopiesStayApart(t *testing.T) {
	for waiting := range 9 {
		net := newNet(t, 100, 0)
		for i := range waiting {
			net.Send(0, 1, i+1)
		}
		other := net.Copy()
		net.Send(0, 1, 50)
		other.Send(0, 1, 60)
		list, _ := net.Waiting(0, 1)
		wantWaiting(t, net, 0, 1, append(slices.Clone(list[:waiting]), 50)...)
		wantWaiting(t, other, 0, 1, append(slices.Clone(list[:waiting]), 60)...)
	}
}

// TestSnapshotsOfCopiesStayApart: parcels that the same snapshot of both hears, after the copy was made.
func TestSnapshotsOfCopiesStayApart(t *testing.T) {
	for heard := range 9 {
		b := newBoth(t, 100, 0)
		b.start(t, 1)
		for i := range heard {
			b.send(t, 0, 1, i+1)
			b.receive(t, 0, 1)
		}
		other := b.copied()
		b.send(t, 0, 1, 30)
		other.send(t, 0, 1, 40)
		for _, net := range []*both{b, other} {
			net.receive(t, 0, 1)
		}
		for _, net := range []*both{b, other} {
			net.receive(t, 1, 0)
			net.receive(t, 0, 1)
			net.look(t)
		}
	}
}

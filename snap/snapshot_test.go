package snap_test

// P9.3 (snapshots), of P9.4 Done, Snapshot and Cut, P9.6 (nothing is lost), P9.7 (consistent) and P9.8 (it ends).

import (
	"fmt"
	"math/rand"
	"slices"
	"testing"

	"encaustic/api"
	"encaustic/snap"
)

// wantSnapshot wants what a snapshot that is done has recorded, and its cut.
func wantSnapshot(t *testing.T, net *snap.Net, no int, recorded string, cut ...int) {
	t.Helper()
	if done, e := net.Done(no); !done || e != api.OK {
		t.Errorf("Done(%d) = %v, %d", no, done, e)
	}
	if got, e := net.Snapshot(no); fmt.Sprint(got) != recorded || e != api.OK {
		t.Errorf("Snapshot(%d) = %v, %d, want %s", no, got, e, recorded)
	}
	if got, e := net.Cut(no); !slices.Equal(got, cut) || e != api.OK {
		t.Errorf("Cut(%d) = %v, %d, want %v", no, got, e, cut)
	}
}

// wantUndone wants a snapshot not to be done.
func wantUndone(t *testing.T, net *snap.Net, no int) {
	t.Helper()
	if done, e := net.Done(no); done || e != api.OK {
		t.Errorf("Done(%d) = %v, %d", no, done, e)
	}
	wantNoSnapshot(t, net, no, api.ErrState)
}

// wantNoSnapshot wants Snapshot and Cut to have an error.
func wantNoSnapshot(t *testing.T, net *snap.Net, no int, errno api.Errno) {
	t.Helper()
	if s, e := net.Snapshot(no); s.Pieces != nil || s.Under != nil || e != errno {
		t.Errorf("Snapshot(%d) = %v, %d, want error %d", no, s, e, errno)
	}
	if cut, e := net.Cut(no); len(cut) != 0 || e != errno {
		t.Errorf("Cut(%d) = %v, %d, want error %d", no, cut, e, errno)
	}
}

func wantStart(t *testing.T, net *snap.Net, at, number int) {
	t.Helper()
	if no, e := net.Start(at); no != number || e != api.OK {
		t.Errorf("Start(%d) = %d, %d, want %d", at, no, e, number)
	}
}

func TestFirstExample(t *testing.T) {
	net := newNet(t, 5, 0)
	want(t, "Send", net.Send(0, 1, 2), api.OK)
	wantStart(t, net, 0, 1)
	wantWaiting(t, net, 0, 1, 2, -1)
	want(t, "Receive of the parcel", net.Receive(0, 1), api.OK)
	wantUndone(t, net, 1)
	want(t, "Receive of the marker", net.Receive(0, 1), api.OK)
	wantWaiting(t, net, 0, 1)
	wantWaiting(t, net, 1, 0, -1)
	wantUndone(t, net, 1)
	want(t, "Receive of the other marker", net.Receive(1, 0), api.OK)
	wantSnapshot(t, net, 1, "{[3 2] [[[] []] [[] []]]}", 1, 1)
	wantPieces(t, net, 5, 3, 2)
}

func TestSecondExample(t *testing.T) {
	net := newNet(t, 5, 0)
	want(t, "Send", net.Send(0, 1, 2), api.OK)
	wantStart(t, net, 1, 1)
	wantWaiting(t, net, 1, 0, -1)
	wantWaiting(t, net, 0, 1, 2)
	want(t, "Receive of the parcel", net.Receive(0, 1), api.OK)
	want(t, "Receive of the marker", net.Receive(1, 0), api.OK)
	wantWaiting(t, net, 0, 1, -1)
	wantUndone(t, net, 1)
	want(t, "Receive of the other marker", net.Receive(0, 1), api.OK)
	wantSnapshot(t, net, 1, "{[3 0] [[[] [2]] [[] []]]}", 1, 0)
}

// TestThreeStations: parcels are under way in three channels, some of them two in order; those that were received before
// their station recorded, that were sent after it, or that came behind the marker, are not.
func TestThreeStations(t *testing.T) {
	net := newNet(t, 20, 20, 20)
	send := func(from, to, pieces int) { t.Helper(); want(t, "Send", net.Send(from, to, pieces), api.OK) }
	receive := func(from, to int) { t.Helper(); want(t, "Receive", net.Receive(from, to), api.OK) }
	send(0, 1, 1)
	send(0, 1, 2)
	send(2, 1, 3)
	send(1, 0, 4)
	send(2, 0, 5)
	receive(0, 1)
	wantStart(t, net, 1, 1)
	wantWaiting(t, net, 1, 0, 4, -1)
	wantWaiting(t, net, 1, 2, -1)
	send(0, 1, 6)
	send(1, 2, 7)
	want(t, "Work", net.Work(1, 10), api.OK)
	receive(1, 0)
	receive(1, 0) // 0 records
	wantWaiting(t, net, 0, 1, 2, 6, -1)
	send(0, 1, 8)
	send(1, 0, 9)
	receive(1, 0)
	receive(2, 0)
	send(2, 0, 11)
	receive(0, 1)
	receive(0, 1)
	receive(0, 1)
	receive(0, 1)
	receive(0, 2) // 2 records
	send(2, 1, 1)
	receive(2, 0)
	receive(2, 0)
	receive(1, 2)
	receive(1, 2)
	wantUndone(t, net, 1)
	receive(2, 1)
	wantUndone(t, net, 1)
	receive(2, 1)
	wantSnapshot(t, net, 1, "{[15 17 1] [[[] [2 6] []] [[] [] []] [[5 11] [3] []]]}", 4, 2, 3)
	wantWaiting(t, net, 2, 1, 1)
	wantPieces(t, net, 70, 32, 30, 7)
}

// TestSeveralSnapshots run at once; each one's markers are its own.
func TestSeveralSnapshots(t *testing.T) {
	net := newNet(t, 5, 5)
	wantStart(t, net, 0, 1)
	net.Send(0, 1, 1)
	wantStart(t, net, 1, 2)
	wantStart(t, net, 0, 3)
	wantStart(t, net, 0, 4)
	wantWaiting(t, net, 0, 1, -1, 1, -3, -4)
	wantWaiting(t, net, 1, 0, -2)
	net.Receive(0, 1)
	wantWaiting(t, net, 1, 0, -2, -1)
	net.Receive(1, 0)
	wantWaiting(t, net, 0, 1, 1, -3, -4, -2)
	net.Receive(1, 0)
	wantSnapshot(t, net, 1, "{[5 5] [[[] []] [[] []]]}", 0, 0)
	wantUndone(t, net, 2)
	wantUndone(t, net, 3)
	net.Receive(0, 1)
	net.Send(1, 0, 3)
	net.Receive(0, 1)
	net.Receive(0, 1)
	net.Receive(0, 1)
	wantWaiting(t, net, 1, 0, 3, -3, -4)
	wantSnapshot(t, net, 2, "{[4 5] [[[] [1]] [[] []]]}", 1, 0)
	net.Receive(1, 0)
	net.Receive(1, 0)
	net.Receive(1, 0)
	wantSnapshot(t, net, 3, "{[4 3] [[[] []] [[3] []]]}", 1, 2)
	wantSnapshot(t, net, 4, "{[4 3] [[[] []] [[3] []]]}", 1, 2)
	wantSnapshot(t, net, 1, "{[5 5] [[[] []] [[] []]]}", 0, 0)
	wantPieces(t, net, 10, 7, 3)
}

// TestMarkersGoOutInOrder: of two snapshots, and to all other stations.
func TestMarkersGoOutInOrder(t *testing.T) {
	net := newNet(t, 1, 1, 1, 1, 1)
	wantStart(t, net, 2, 1)
	wantStart(t, net, 4, 2)
	wantStart(t, net, 2, 3)
	for _, to := range []int{0, 1, 3, 4} {
		wantWaiting(t, net, 2, to, -1, -3)
	}
	for to := range 4 {
		wantWaiting(t, net, 4, to, -2)
	}
	wantWaiting(t, net, 0, 1)
	net.Receive(4, 2)
	for _, to := range []int{0, 1, 3, 4} {
		wantWaiting(t, net, 2, to, -1, -3, -2)
	}
	net.Receive(2, 4)
	net.Receive(2, 0)
	for to := range 4 {
		wantWaiting(t, net, 4, to, [][]int{{-2, -1}, {-2, -1}, {-1}, {-2, -1}}[to]...)
	}
	for to := 1; to < 5; to++ {
		wantWaiting(t, net, 0, to, -1)
	}
}

func TestErrorsOfSnapshots(t *testing.T) {
	net := newNet(t, 5, 0, 0)
	for _, begun := range []int{0, 1, 2, 3, 4, 5, 6, 7, 8} {
		for _, no := range ints() {
			if no >= 1 && no <= begun {
				wantUndone(t, net, no)
				continue
			}
			if done, e := net.Done(no); done || e != api.ErrNone {
				t.Errorf("of %d: Done(%d) = %v, %d", begun, no, done, e)
			}
			wantNoSnapshot(t, net, no, api.ErrNone)
		}
		if begun < 8 {
			wantStart(t, net, begun%3, begun+1)
		}
	}
	before := look(net, 8)
	for _, at := range ints() {
		errno := api.ErrArg
		if at >= 0 && at < 3 {
			errno = api.ErrFull
		}
		if no, e := net.Start(at); no != 0 || e != errno {
			t.Errorf("Start(%d) = %d, %d, want error %d", at, no, e, errno)
		}
	}
	if after := look(net, 8); after != before {
		t.Errorf("first\n%sand then\n%s", before, after)
	}
}

// TestFullOfSnapshots: those that are done count as well.
func TestFullOfSnapshots(t *testing.T) {
	net := newNet(t, 5, 0)
	for no := range 8 {
		wantStart(t, net, 0, no+1)
		net.Receive(0, 1)
		net.Receive(1, 0)
		wantSnapshot(t, net, no+1, "{[5 0] [[[] []] [[] []]]}", 0, 0)
	}
	if no, e := net.Start(1); no != 0 || e != api.ErrFull {
		t.Errorf("Start(1) = %d, %d", no, e)
	}
	wantWaiting(t, net, 1, 0)
}

// within is the events within a cut, in their order.
func within(events []api.Event, cut []int) []api.Event {
	var list []api.Event
	place := places(events)
	for i, e := range events {
		if place[i] <= cut[e.Station] {
			list = append(list, e)
		}
	}
	return list
}

// redo does events in another net; false if one of them cannot be done.
func redo(net *snap.Net, events []api.Event) bool {
	ok := true
	for _, e := range events {
		switch e.What {
		case api.EventWork:
			ok = ok && net.Work(e.Station, e.Pieces) == api.OK
		case api.EventSend:
			ok = ok && net.Send(e.Station, e.Other, e.Pieces) == api.OK
		case api.EventReceive:
			ok = ok && net.Receive(e.Other, e.Station) == api.OK
		}
	}
	return ok
}

// recorded is what a snapshot of a net would be that sees it as it is.
func recorded(net *snap.Net) string {
	s := api.Snapshot{Pieces: net.Pieces()}
	for from := range s.Pieces {
		var rows [][]int
		for to := range s.Pieces {
			row, _ := net.Waiting(from, to)
			rows = append(rows, row)
		}
		s.Under = append(s.Under, rows)
	}
	return fmt.Sprint(s)
}

// sum is all that a snapshot has recorded.
func sum(s api.Snapshot) int {
	sum := 0
	for from, p := range s.Pieces {
		sum += p
		for _, row := range s.Under[from] {
			for _, p := range row {
				sum += p
			}
		}
	}
	return sum
}

// checkSnapshot checks one that is done against the events within its cut, and what there was at the beginning.
func checkSnapshot(t *testing.T, b *both, no int) {
	t.Helper()
	s, e := b.net.Snapshot(no)
	cut, f := b.net.Cut(no)
	if e != api.OK || f != api.OK {
		t.Fatalf("%s: Snapshot(%d) has error %d, and Cut %d", b.done, no, e, f)
	}
	events := b.net.Events()
	if !isConsistent(len(cut), events, cut) {
		t.Errorf("%s: Cut(%d) = %v", b.done, no, cut)
	}
	if ok, e := snap.Consistent(len(cut), events, cut); len(events) <= 60 && (!ok || e != api.OK) {
		t.Errorf("%s: Consistent of Cut(%d) = %v is %v, %d", b.done, no, cut, ok, e)
	}
	other, made := newNet(t, b.diary.pieces...), 0
	for _, p := range b.diary.pieces {
		made += p
	}
	done := within(events, cut)
	for _, e := range done {
		if e.What == api.EventWork {
			made += e.Pieces
		}
	}
	if !redo(other, done) || recorded(other) != fmt.Sprint(s) {
		t.Errorf("%s: Snapshot(%d) = %v, but the events within the cut %v make %s", b.done, no, s, cut, recorded(other))
	}
	if sum(s) != made {
		t.Errorf("%s: Snapshot(%d) = %v has %d, want %d", b.done, no, s, sum(s), made)
	}
}

// TestSnapshotsOfRandomNets drains nets, so that all snapshots are done.
func TestSnapshotsOfRandomNets(t *testing.T) {
	random := rand.New(rand.NewSource(96))
	undone, full := 0, 0
	for round := range 300 {
		b := walk(t, random, 2+round%4, 20+random.Intn(120))
		for no := range b.diary.snapshots {
			if done, _ := b.net.Done(no + 1); !done {
				undone++
			}
		}
		if b.diary.snapshots < 8 {
			b.start(t, random.Intn(2))
		} else {
			full++
		}
		b.drain(t, random)
		if b.net.Total() != b.diary.total() {
			t.Errorf("%s: Total() = %d, want %d", b.done, b.net.Total(), b.diary.total())
		}
		for no := range b.diary.snapshots {
			checkSnapshot(t, b, no+1)
		}
		if done, e := b.net.Done(b.diary.snapshots); !done || e != api.OK {
			t.Errorf("%s: Done(%d) = %v, %d", b.done, b.diary.snapshots, done, e)
		}
	}
	if undone < 100 || full < 10 || full > 290 {
		t.Errorf("%d snapshots were not done, %d nets were full of them: these ways test little", undone, full)
	}
}

// TestWhatIsDoneStays: work that goes on changes nothing in a snapshot that is done.
func TestWhatIsDoneStays(t *testing.T) {
	random := rand.New(rand.NewSource(93))
	for round := range 60 {
		b := walk(t, random, 2+round%4, 40)
		if b.diary.snapshots == 8 {
			continue
		}
		b.start(t, 1)
		b.drain(t, random)
		no := b.diary.snapshots
		s, _ := b.net.Snapshot(no)
		cut, _ := b.net.Cut(no)
		text := fmt.Sprint(s)
		for range 60 {
			b.step(t, random)
		}
		wantSnapshot(t, b.net, no, text, cut...)
	}
}

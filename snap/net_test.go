package snap_test

// P9.1 (the net), and of P9.4 Pieces, Waiting, Total and Copy.

import (
	"fmt"
	"math/rand"
	"slices"
	"testing"

	"encaustic/api"
	"encaustic/snap"
)

// newNet is a net with these pieces.
func newNet(t *testing.T, pieces ...int) *snap.Net {
	t.Helper()
	net, e := snap.New(pieces)
	if net == nil || e != api.OK {
		t.Fatalf("New(%v) = %v, %d", pieces, net, e)
	}
	return net
}

// want wants these errors.
func want(t *testing.T, what string, got, errno api.Errno) {
	t.Helper()
	if got != errno {
		t.Errorf("%s: error %d, want %d", what, got, errno)
	}
}

// wantWaiting wants this to be in a channel.
func wantWaiting(t *testing.T, net *snap.Net, from, to int, list ...int) {
	t.Helper()
	if got, e := net.Waiting(from, to); !slices.Equal(got, list) || e != api.OK {
		t.Errorf("Waiting(%d, %d) = %v, %d, want %v", from, to, got, e, list)
	}
}

// wantPieces wants these pieces at the stations, and so many in all.
func wantPieces(t *testing.T, net *snap.Net, total int, pieces ...int) {
	t.Helper()
	if got := net.Pieces(); !slices.Equal(got, pieces) {
		t.Errorf("Pieces() = %v, want %v", got, pieces)
	}
	if got := net.Total(); got != total {
		t.Errorf("Total() = %d, want %d", got, total)
	}
}

func TestNew(t *testing.T) {
	for _, pieces := range [][]int{{0, 0}, {1000000, 0}, {5, 0, 7}, {1, 2, 3, 1000000}, {1000000, 1000000, 1000000, 1000000, 1000000}} {
		net := newNet(t, pieces...)
		total := 0
		for at, p := range pieces {
			total += p
			for to := range pieces {
				if to != at {
					wantWaiting(t, net, at, to)
				}
			}
		}
		wantPieces(t, net, total, pieces...)
		if list := net.Events(); len(list) != 0 {
			t.Errorf("New(%v) has the events %v", pieces, list)
		}
	}
}

func TestErrorsOfNew(t *testing.T) {
	for _, pieces := range [][]int{nil, {}, {0}, {5}, {1, 2, 3, 4, 5, 6}, {-1, 0}, {0, -1}, {0, 1000001}, {1000001, 0}, {0, 0, 0, 0, -1}, {0, 0, 1000001, 0}, make([]int, 100000)} {
		if net, e := snap.New(pieces); net != nil || e != api.ErrArg {
			t.Errorf("New of %d, %.5v = %v, %d, want nil, %d", len(pieces), pieces, net, e, api.ErrArg)
		}
	}
	for _, p := range ints() {
		for at := range 3 {
			pieces := make([]int, 3)
			pieces[at] = p
			if net, e := snap.New(pieces); (net != nil) != (p >= 0 && p <= 1000000) || (e == api.OK) != (net != nil) {
				t.Errorf("New(%v) = %v, %d", pieces, net, e)
			}
		}
	}
}

func TestWorkSendAndReceive(t *testing.T) {
	net := newNet(t, 5, 0, 1)
	want(t, "Work", net.Work(1, 3), api.OK)
	wantPieces(t, net, 9, 5, 3, 1)
	want(t, "Send", net.Send(0, 1, 2), api.OK)
	want(t, "Send", net.Send(0, 2, 3), api.OK)
	want(t, "Send", net.Send(1, 0, 1), api.OK)
	wantPieces(t, net, 9, 0, 2, 1)
	want(t, "Work", net.Work(0, 1), api.OK)
	want(t, "Send", net.Send(0, 1, 1), api.OK)
	wantWaiting(t, net, 0, 1, 2, 1)
	wantWaiting(t, net, 0, 2, 3)
	wantWaiting(t, net, 1, 0, 1)
	wantWaiting(t, net, 2, 0)
	want(t, "Receive", net.Receive(0, 1), api.OK)
	wantWaiting(t, net, 0, 1, 1)
	wantPieces(t, net, 10, 0, 4, 1)
	want(t, "Receive", net.Receive(0, 2), api.OK)
	want(t, "Receive", net.Receive(0, 1), api.OK)
	want(t, "Receive", net.Receive(1, 0), api.OK)
	wantPieces(t, net, 10, 1, 5, 4)
	want(t, "Receive of nothing", net.Receive(0, 1), api.ErrNone)
	want(t, "Receive of nothing", net.Receive(2, 1), api.ErrNone)
	text := ""
	for _, e := range net.Events() {
		text += fmt.Sprint(e.Station, e.What, e.Other, e.Pieces, "; ")
	}
	if text != "1 1 1 3; 0 2 1 2; 0 2 2 3; 1 2 0 1; 0 1 0 1; 0 2 1 1; 1 3 0 2; 2 3 0 3; 1 3 0 1; 0 3 1 1; " {
		t.Error(text)
	}
}

// TestLimitsOfPieces: what is made or sent at once is limited, not what a station comes to have.
func TestLimitsOfPieces(t *testing.T) {
	net := newNet(t, 1000000, 1000000)
	want(t, "Work of 1000000", net.Work(0, 1000000), api.OK)
	want(t, "Work of 1", net.Work(0, 1), api.OK)
	wantPieces(t, net, 3000001, 2000001, 1000000)
	want(t, "Send of 1000001", net.Send(0, 1, 1000001), api.ErrArg)
	want(t, "Send of 1000000", net.Send(0, 1, 1000000), api.OK)
	want(t, "Receive", net.Receive(0, 1), api.OK)
	wantPieces(t, net, 3000001, 1000001, 2000000)
	for _, p := range ints() {
		errno := api.ErrArg
		if p >= 1 && p <= 1000000 {
			errno = api.OK
		}
		net := newNet(t, 1000000, 0)
		want(t, fmt.Sprint("Work of ", p), net.Work(1, p), errno)
		want(t, fmt.Sprint("Send of ", p), net.Send(0, 1, p), errno)
	}
}

// TestEnoughPieces: a station can send all it has, and what was received it can send on; what is under way it cannot.
func TestEnoughPieces(t *testing.T) {
	net := newNet(t, 3, 0)
	want(t, "Send of 4", net.Send(0, 1, 4), api.ErrPlan)
	want(t, "Send of 1000000", net.Send(0, 1, 1000000), api.ErrPlan)
	want(t, "Send of 1000001", net.Send(0, 1, 1000001), api.ErrArg)
	want(t, "Send of 3", net.Send(0, 1, 3), api.OK)
	want(t, "Send of 1", net.Send(0, 1, 1), api.ErrPlan)
	want(t, "Send on", net.Send(1, 0, 1), api.ErrPlan)
	want(t, "Receive", net.Receive(0, 1), api.OK)
	want(t, "Send on", net.Send(1, 0, 3), api.OK)
	wantPieces(t, net, 3, 0, 0)
}

// TestNoStation gives each function stations that there are not, with other errors that come later.
func TestNoStation(t *testing.T) {
	for n := 2; n <= 5; n++ {
		net := newNet(t, make([]int, n)...)
		for _, one := range ints() {
			is := one >= 0 && one < n
			if !is {
				want(t, fmt.Sprint("Work at ", one), net.Work(one, 1), api.ErrArg)
				no, e := net.Start(one)
				if want(t, fmt.Sprint("Start at ", one), e, api.ErrArg); no != 0 {
					t.Errorf("Start(%d) = %d, %d", one, no, e)
				}
			}
			for _, other := range ints() {
				send, receive := api.ErrArg, api.ErrArg
				if is && other >= 0 && other < n && one != other {
					send, receive = api.ErrPlan, api.ErrNone
				}
				want(t, fmt.Sprint("Send ", one, other), net.Send(one, other, 1), send)
				want(t, fmt.Sprint("Send of 0 ", one, other), net.Send(one, other, 0), api.ErrArg)
				want(t, fmt.Sprint("Receive ", one, other), net.Receive(one, other), receive)
				list, e := net.Waiting(one, other)
				if (e == api.ErrArg) != (receive == api.ErrArg) || len(list) != 0 {
					t.Errorf("%d stations: Waiting(%d, %d) = %v, %d", n, one, other, list, e)
				}
			}
		}
	}
}

// TestFullOfEvents: the 401st event is refused, after all other errors; a marker is no event.
func TestFullOfEvents(t *testing.T) {
	b := newBoth(t, 1000, 1, 0)
	b.start(t, 1)
	for range 199 {
		b.send(t, 0, 1, 1)
		b.receive(t, 0, 1)
	}
	b.send(t, 0, 1, 2)
	b.look(t)
	b.start(t, 0)
	b.work(t, 2, 7)
	b.look(t)
	if got := len(b.net.Events()); got != 400 {
		t.Fatalf("%d events", got)
	}
	before := look(b.net, 2)
	for _, c := range []struct {
		what       string
		got, errno api.Errno
	}{
		{"Work", b.net.Work(0, 1), api.ErrFull},
		{"Send", b.net.Send(0, 1, 1), api.ErrFull},
		{"Receive", b.net.Receive(0, 1), api.ErrFull},
		{"Work of nothing", b.net.Work(0, 0), api.ErrArg},
		{"Work nowhere", b.net.Work(3, 1), api.ErrArg},
		{"Send of nothing", b.net.Send(0, 1, 0), api.ErrArg},
		{"Send to itself", b.net.Send(0, 0, 1), api.ErrArg},
		{"Send of too much", b.net.Send(2, 1, 8), api.ErrPlan},
		{"Receive of nothing", b.net.Receive(2, 1), api.ErrNone},
		{"Receive from itself", b.net.Receive(1, 1), api.ErrArg},
	} {
		want(t, c.what, c.got, c.errno)
	}
	if after := look(b.net, 2); after != before {
		t.Errorf("first\n%sand then\n%s", before, after)
	}
	b.receive(t, 1, 0)
	b.receive(t, 1, 2)
	b.receive(t, 2, 0)
	b.receive(t, 2, 1)
	b.receive(t, 0, 2)
	b.receive(t, 0, 1)
	b.start(t, 2)
	b.look(t)
}

// TestAlmostFullOfEvents: each of the three may be the last event.
func TestAlmostFullOfEvents(t *testing.T) {
	for last := range 3 {
		b := newBoth(t, 10, 0)
		b.send(t, 0, 1, 1)
		for range 398 {
			b.work(t, 1, 1)
		}
		for i := range 3 {
			switch (last + i) % 3 {
			case 0:
				b.work(t, 0, 1)
			case 1:
				b.send(t, 0, 1, 1)
			case 2:
				b.receive(t, 0, 1)
			}
		}
		b.look(t)
	}
}

// everyStep is all that can be done at two stations.
func everyStep() []func(t *testing.T, b *both) {
	return []func(t *testing.T, b *both){
		func(t *testing.T, b *both) { b.work(t, 1, 2) },
		func(t *testing.T, b *both) { b.send(t, 0, 1, 1) },
		func(t *testing.T, b *both) { b.send(t, 1, 0, 2) },
		func(t *testing.T, b *both) { b.receive(t, 0, 1) },
		func(t *testing.T, b *both) { b.receive(t, 1, 0) },
		func(t *testing.T, b *both) { b.start(t, 0) },
		func(t *testing.T, b *both) { b.start(t, 1) },
	}
}

// TestEveryWay does all that can be done in some steps, each on a copy, and looks at both afterwards.
func TestEveryWay(t *testing.T) {
	var follow func(b *both, steps int)
	follow = func(b *both, steps int) {
		b.look(t)
		if steps == 0 {
			return
		}
		for _, step := range everyStep() {
			next := b.copied()
			step(t, next)
			follow(next, steps-1)
		}
		b.look(t)
	}
	follow(newBoth(t, 2, 1), 6)
}

// TestRandomWays does much in nets of all sizes, some of it refused, and looks at them again and again.
func TestRandomWays(t *testing.T) {
	random := rand.New(rand.NewSource(91))
	for round := range 120 {
		b := walk(t, random, 2+round%4, 0)
		for range 12 {
			for range 10 {
				b.step(t, random)
			}
			b.look(t)
		}
		b.drain(t, random)
		b.look(t)
	}
}

// TestCopies goes on in a copy, and in the net that it is of, in different ways.
func TestCopies(t *testing.T) {
	random := rand.New(rand.NewSource(94))
	for round := range 100 {
		first := walk(t, random, 2+round%4, 60)
		second := first.copied()
		third := second.copied()
		for range 60 {
			first.step(t, random)
			second.step(t, random)
		}
		first.look(t)
		second.look(t)
		third.look(t)
		third.drain(t, random)
		first.look(t)
		second.look(t)
		third.look(t)
	}
}

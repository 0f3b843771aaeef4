package snap_test

// P9.2 (clocks) and, of P9.5 and P9.9, Before. That clocks count what could have caused an event is compared with the
// diary wherever a test looks at a net.

import (
	"math/rand"
	"slices"
	"testing"

	"encaustic/api"
	"encaustic/snap"
)

func clocked(clock ...int) api.Event { return api.Event{Clock: clock} }

func TestClocks(t *testing.T) {
	net := newNet(t, 9, 9, 9)
	net.Work(0, 1)
	net.Send(0, 1, 4)
	net.Send(0, 2, 1)
	net.Work(0, 1)
	net.Work(1, 5)
	net.Receive(0, 1)
	net.Send(1, 2, 3)
	net.Receive(1, 2)
	net.Receive(0, 2)
	net.Send(2, 0, 2)
	net.Receive(2, 0)
	want := []api.Event{
		{Station: 0, What: 1, Other: 0, Pieces: 1, Clock: []int{1, 0, 0}},
		{Station: 0, What: 2, Other: 1, Pieces: 4, Clock: []int{2, 0, 0}},
		{Station: 0, What: 2, Other: 2, Pieces: 1, Clock: []int{3, 0, 0}},
		{Station: 0, What: 1, Other: 0, Pieces: 1, Clock: []int{4, 0, 0}},
		{Station: 1, What: 1, Other: 1, Pieces: 5, Clock: []int{0, 1, 0}},
		{Station: 1, What: 3, Other: 0, Pieces: 4, Clock: []int{2, 2, 0}},
		{Station: 1, What: 2, Other: 2, Pieces: 3, Clock: []int{2, 3, 0}},
		{Station: 2, What: 3, Other: 1, Pieces: 3, Clock: []int{2, 3, 1}},
		{Station: 2, What: 3, Other: 0, Pieces: 1, Clock: []int{3, 3, 2}},
		{Station: 2, What: 2, Other: 0, Pieces: 2, Clock: []int{3, 3, 3}},
		{Station: 0, What: 3, Other: 2, Pieces: 2, Clock: []int{5, 3, 3}},
	}
	list := net.Events()
	if len(list) != len(want) {
		t.Fatalf("%d events, want %d", len(list), len(want))
	}
	for i, e := range list {
		w := want[i]
		if e.Station != w.Station || e.What != w.What || e.Other != w.Other || e.Pieces != w.Pieces || !slices.Equal(e.Clock, w.Clock) {
			t.Errorf("event %d is %v, want %v", i, e, w)
		}
	}
}

// TestMarkersAreNoEvents: they change no clock, neither where they are put nor where they are received.
func TestMarkersAreNoEvents(t *testing.T) {
	net := newNet(t, 2, 2)
	net.Work(0, 1)
	net.Work(0, 1)
	net.Start(0)
	net.Receive(0, 1)
	net.Receive(1, 0)
	net.Work(1, 1)
	net.Start(1)
	net.Receive(1, 0)
	net.Work(0, 1)
	list := net.Events()
	if len(list) != 4 || !slices.Equal(list[2].Clock, []int{0, 1}) || !slices.Equal(list[3].Clock, []int{3, 0}) {
		t.Error(list)
	}
}

func TestBefore(t *testing.T) {
	for _, c := range []struct {
		a, b []int
		want bool
	}{
		{[]int{1, 0}, []int{1, 1}, true},
		{[]int{1, 1}, []int{1, 0}, false},
		{[]int{0, 0}, []int{1, 1}, true},
		{[]int{1, 0}, []int{0, 1}, false},
		{[]int{0, 2, 3}, []int{1, 2, 3}, true},
		{[]int{0, 2, 3}, []int{1, 2, 2}, false},
		{[]int{2, 2}, []int{2, 2}, false},
		{[]int{1}, []int{2}, true},
		{[]int{2}, []int{1}, false},
		{[]int{0, 0}, []int{1, 1, 1}, false},
		{[]int{0, 0, 0}, []int{1, 1}, false},
		{[]int{0}, nil, false},
		{nil, []int{0}, false},
		{nil, []int{1}, false},
		{nil, nil, false},
		{[]int{}, nil, false},
		{[]int{-2, 0}, []int{-1, 0}, true},
		{[]int{0, 0, 0, 0, 0, 0, 0}, []int{0, 0, 0, 0, 0, 0, 1}, true},
		{[]int{0, 0, 0, 0, 0, 0, 1}, []int{1, 1, 1, 1, 1, 1, 0}, false},
	} {
		if got := snap.Before(clocked(c.a...), clocked(c.b...)); got != c.want {
			t.Errorf("Before of %v and %v is %v", c.a, c.b, got)
		}
	}
	for _, a := range ints() {
		for _, b := range ints() {
			if got := snap.Before(clocked(7, a), clocked(7, b)); got != (a < b) {
				t.Errorf("Before of 7 %d and 7 %d is %v", a, b, got)
			}
		}
	}
}

// TestBeforeSeesClocksAlone: other fields say nothing.
func TestBeforeSeesClocksAlone(t *testing.T) {
	a, b := api.Event{Station: 9, What: 9, Other: -1, Pieces: 9, Clock: []int{1, 2}}, api.Event{Clock: []int{1, 3}}
	if !snap.Before(a, b) || snap.Before(b, a) {
		t.Error(a, b)
	}
	b.Clock = []int{1, 2}
	if snap.Before(a, b) || snap.Before(b, a) {
		t.Error(a, b)
	}
}

// TestBeforeIsCause compares Before with the order that comes of stations and parcels.
func TestBeforeIsCause(t *testing.T) {
	random := rand.New(rand.NewSource(99))
	for round := range 60 {
		b := walk(t, random, 2+round%4, 80)
		list := b.net.Events()
		before := causes(list)
		for i := range list {
			for j := range list {
				if got := snap.Before(list[i], list[j]); got != before[i][j] {
					t.Fatalf("%s: Before of %v and %v is %v", b.done, list[i], list[j], got)
				}
			}
		}
	}
}
